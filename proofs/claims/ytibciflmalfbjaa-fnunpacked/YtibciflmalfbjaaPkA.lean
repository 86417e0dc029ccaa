/-
  Several texts of this seat as one: ChC, AppF, NoteC, NoteK, ThrN, ThrB, ChoM, ChoI, ChoS, ChoS2, ChoN.
-/
import Derived.Test.YtibciflmalfbjaaRngF
import Derived.Test.YtibciflmalfbjaaTkMath
import Derived.Test.YtibciflmalfbjaaRows
import Derived.ArgAppend
import Derived.Laws.AppendOwn
import Derived.WalkKit
import Derived.Test.YtibciflmalfbjaaConv
import Derived.Below
import Derived.Test.YtibciflmalfbjaaRngA
import Derived.Test.YtibciflmalfbjaaHeld
import Derived.BigRegion
import Derived.Test.YtibciflmalfbjaaUnTk
import Derived.Test.YtibciflmalfbjaaTkS

/-!   Lists of choices in memory that are one's own; the choices of tokens, as plain mathematics. -/
namespace Go.Proofs.Ytibciflmalfbjaa
open Go.RowKit
set_option linter.unusedVariables false
def cC (L : List (Nat × Nat)) : List Value := L.flatMap fun c => [.int .i64 (c.1 : Int), .int .i64 (c.2 : Int)]
theorem cC_snoc (L : List (Nat × Nat)) (x b : Nat) : cC (L ++ [(x, b)]) = cC L ++ [.int .i64 (x : Int), .int .i64 (b : Int)] := by simp [cC]
theorem cC_len (L : List (Nat × Nat)) : (cC L).length = L.length * 2 := by
  induction L with
  | nil => rfl
  | cons t r ih => simp only [cC, List.flatMap_cons, List.length_append, List.length_cons, List.length_nil] at ih ⊢; omega
theorem cC_at (L : List (Nat × Nat)) (i : Nat) (h : i < L.length) : (cC L)[2 * i]? = some (.int .i64 (L[i].1 : Int)) ∧ (cC L)[2 * i + 1]? = some (.int .i64 (L[i].2 : Int)) := by
  induction L generalizing i with
  | nil => simp at h
  | cons c L ih =>
    have e : cC (c :: L) = .int .i64 (c.1 : Int) :: .int .i64 (c.2 : Int) :: cC L := by simp [cC]
    rw [e]
    cases i with
    | zero => exact ⟨rfl, rfl⟩
    | succ i =>
      have h2 := ih i (by simpa using h)
      have e1 : 2 * (i + 1) = 2 * i + 1 + 1 := by omega
      rw [e1]
      simpa using h2
/-- the choices of a number in a tree -/
def treeL (f v : Nat) : Nat → Nat → List (Nat × Nat)
  | 0, _ => []
  | k + 1, nd => (f + nd, v / 2 ^ k % 2) :: treeL f v k (2 * nd + v / 2 ^ k % 2)
/-- where a tree ends -/
def treeN (v : Nat) : Nat → Nat → Nat
  | 0, nd => nd
  | k + 1, nd => treeN v k (2 * nd + v / 2 ^ k % 2)
def tokCh (a : Nat) (t : TkN) : List (Nat × Nat) :=
  (a, t.k) :: if t.k = 0 then treeL 1 t.b 8 1 else treeL 260 (t.l - 3) 6 1 ++ treeL 330 ((t.d - 1) / 64) 6 1 ++ treeL 400 ((t.d - 1) % 64) 6 1
/-- of the first tokens: their choices, and the kind of the last one -/
def choUp (F : Nat → TkN) : Nat → List (Nat × Nat) × Nat
  | 0 => ([], 0)
  | i + 1 => ((choUp F i).1 ++ tokCh (choUp F i).2 (F i), (F i).k)
/-- a token that may stand -/
def TkOk (t : TkN) : Prop := (t.k = 0 ∧ t.b < 256) ∨ (t.k = 1 ∧ 1 ≤ t.d ∧ t.d ≤ 4096 ∧ 3 ≤ t.l ∧ t.l ≤ 66)
theorem treeL_len (f v : Nat) : ∀ k nd, (treeL f v k nd).length = k
  | 0, _ => rfl
  | k + 1, nd => by simp [treeL, treeL_len f v k]
theorem treeL_ok (f v : Nat) : ∀ k nd m, nd < 2 ^ m → (k = 0 ∨ f + 2 ^ (m + k - 1) ≤ 512) → ∀ c ∈ treeL f v k nd, c.1 < 512 ∧ (c.2 = 0 ∨ c.2 = 1)
  | 0, _, _, _, _ => fun c hc => by simp [treeL] at hc
  | k + 1, nd, m, h1, h2 => fun c hc => by
    have h3 : f + 2 ^ (m + k) ≤ 512 := by rcases h2 with h2 | h2; omega; exact h2
    have hp : 2 ^ m ≤ 2 ^ (m + k) := Nat.pow_le_pow_right (by omega) (by omega)
    rcases List.mem_cons.1 hc with rfl | hc
    · exact ⟨by show f + nd < 512; omega, by show v / 2 ^ k % 2 = 0 ∨ v / 2 ^ k % 2 = 1; omega⟩
    · exact treeL_ok f v k _ (m + 1) (by rw [Nat.pow_succ]; omega) (by rw [show m + 1 + k - 1 = m + k by omega]; exact Or.inr h3) c hc
theorem tokCh_ok {a : Nat} {t : TkN} (ha : a < 512) (h : TkOk t) : ∀ c ∈ tokCh a t, c.1 < 512 ∧ (c.2 = 0 ∨ c.2 = 1) := by
  intro c hc
  unfold tokCh at hc
  rcases List.mem_cons.1 hc with rfl | hc
  · exact ⟨ha, by rcases h with h | h; exact Or.inl h.1; exact Or.inr h.1⟩
  · split at hc
    · exact treeL_ok 1 _ 8 1 1 (by omega) (Or.inr (by decide)) c hc
    · rcases List.mem_append.1 hc with hc | hc
      · rcases List.mem_append.1 hc with hc | hc
        · exact treeL_ok 260 _ 6 1 1 (by omega) (Or.inr (by decide)) c hc
        · exact treeL_ok 330 _ 6 1 1 (by omega) (Or.inr (by decide)) c hc
      · exact treeL_ok 400 _ 6 1 1 (by omega) (Or.inr (by decide)) c hc
theorem tokCh_len (a : Nat) (t : TkN) : (tokCh a t).length = if t.k = 0 then 9 else 19 := by
  unfold tokCh
  split
  · simp [treeL_len]
  · simp [treeL_len]
theorem choUp_kind (F : Nat → TkN) (n : Nat) (h : ∀ i, i < n → TkOk (F i)) : ∀ i, i ≤ n → (choUp F i).2 ≤ 1
  | 0, _ => Nat.zero_le _
  | i + 1, hi => by
    show (F i).k ≤ 1
    rcases h i (by omega) with h | h <;> omega
theorem choUp_ok (F : Nat → TkN) (n : Nat) (h : ∀ i, i < n → TkOk (F i)) : ∀ i, i ≤ n → ∀ c ∈ (choUp F i).1, c.1 < 512 ∧ (c.2 = 0 ∨ c.2 = 1)
  | 0, _ => fun c hc => by cases hc
  | i + 1, hi => fun c hc => by
    rcases List.mem_append.1 hc with hc | hc
    · exact choUp_ok F n h i (by omega) c hc
    · exact tokCh_ok (by have := choUp_kind F n h i (by omega); omega) (h i (by omega)) c hc
end Go.Proofs.Ytibciflmalfbjaa

/-!   An append where it is told besides that the row stays where it was, or lies behind all that was there. -/
namespace Go.Proofs.Ytibciflmalfbjaa
open Go.RowKit
set_option linter.unusedVariables false
theorem owns_lower {w : World} {B C : Nat} {e : TypeId} {size n : Nat} {v : Value} {xs : List Value} (h : w.ownsRow B e size v n xs) (hc : C ≤ B) : w.ownsRow C e size v n xs := by
  obtain ⟨h0, h1 | ⟨g, cap, cur, h1, h2, h3⟩⟩ := h
  · exact ⟨h0, Or.inl h1⟩
  · exact ⟨h0, Or.inr ⟨g, cap, cur, h1, Nat.le_trans hc h2, h3⟩⟩
theorem grown_any {w w' : World} (h : w.grownBy w' none) (r : Option Nat) : w.grownBy w' r := ⟨h.os, h.tape, h.output, h.size, fun k hk _ => h.block k hk (by simp)⟩
theorem run_append_fr {P : Program} (w : World) (base : Nat) (t ty e : TypeId) (i : TypeInfo) (z : Value) (size bytes : Nat) (ht : P.underlying t = some (.slice e)) (hi : P.info? e = some i) (hz : i.zero = some z)
    (hsize : i.size = size) (hby : i.bytes = bytes) (hzs : z.cells.size = size) (hsz : 0 < size) (gv cap n : Nat) (xs : List Value) (hown : w.ownsRow base e size (.slice (some ⟨gv, 0, none⟩) n cap) n xs)
    (a : Addr) (m c : Nat) (news : List Value) (hl : news.length = m * size) (hnews : ∀ j u, news[j]? = some u → w.cell? (a.add j) = some u) (h1 : ∀ u ∈ news, u.oneCell' = true)
    (h63 : n + m ≤ maxLen) (hbytes : (n + m) * bytes ≤ 140737488355328) (hbase : base ≤ w.heap.size) :
    ∃ g' c' w', (Builtin.append_ #[t, t] ty #[.slice (some ⟨gv, 0, none⟩) n cap, .slice (some a) m c]).run P w = .ok (.slice (some ⟨g', 0, none⟩) (n + m) c') w' ∧ w'.ownsRow base e size (.slice (some ⟨g', 0, none⟩) (n + m) c') (n + m) (xs ++ news) ∧ w.grownBy w' (some gv) ∧ (g' = gv ∨ w.heap.size ≤ g') := by
  have hown0 := hown
  obtain ⟨h0, ⟨h2, _⟩ | ⟨g, cp, cur, h2, h3, h4, h5, h6, h7, h8⟩⟩ := hown
  · cases h2
  · cases h2
    by_cases hroom : n + m ≤ cap
    · obtain ⟨v', w', hr, o1, o2, o3⟩ := run_append_own (P := P) w base t ty e i z size bytes ht hi hz hsize hby hzs hsz _ n xs hown0 a m c news hl hnews h1 h63 hbytes hbase
      have hfit : n * i.size + news.length ≤ cur.size := by rw [hl, h7, hsize, ← Nat.add_mul]; exact Nat.mul_le_mul_right _ hroom
      have hr2 := run_append_room (P := P) w t ty e i ht hi gv n cap cur h4 a m c news (by rw [hl, hsize]) hnews h1 hroom hfit
      rw [hr2] at hr
      injection hr with e1 e2
      subst e1
      exact ⟨gv, cap, w', by rw [hr2, e2], o1, o2, Or.inl rfl⟩
    · have holds : ∀ j u, xs[j]? = some u → w.cell? ((⟨gv, 0, none⟩ : Addr).add j) = some u := hown0.cells (g := gv) rfl
      obtain ⟨v', w', hr, o1, o2⟩ := run_append_arg_grows (P := P) w t ty e i z size bytes ht hi hz hsize hby hzs hsz ⟨gv, 0, none⟩ n cap xs h0 holds a m c news hl hnews (by omega) h63 hbytes
      obtain ⟨q0, ⟨q1, q2⟩ | ⟨g', c', cur', q1, q2, q3⟩⟩ := o1
      · omega
      · subst q1
        exact ⟨g', c', w', hr, ⟨q0, Or.inr ⟨g', c', cur', rfl, Nat.le_trans hbase q2, q3⟩⟩, grown_any o2 _, Or.inr q2⟩
theorem wpList_append_fr {P : Program} (w : World) {ops : Array Oper} {rest : List Oper} {o : Oper} {a : Act} {Q : Exit → Act → World → Prop} (hgd : o.guard = none) (s x : Operand) (t : TypeId)
    (ho : o.op = .call { callee := .builtin .append, args := #[s, x], argTypes := #[t, t] })
    (base : Nat) (e : TypeId) (i : TypeInfo) (z : Value) (size bytes : Nat) (ht : P.underlying t = some (.slice e)) (hi : P.info? e = some i) (hz : i.zero = some z)
    (hsize : i.size = size) (hby : i.bytes = bytes) (hzs : z.cells.size = size) (hsz : 0 < size)
    (gv cap n : Nat) (xs : List Value) (hs : a.eval s = .slice (some ⟨gv, 0, none⟩) n cap) (hown : w.ownsRow base e size (.slice (some ⟨gv, 0, none⟩) n cap) n xs)
    (ad : Addr) (m c : Nat) (news : List Value) (hx : a.eval x = .slice (some ad) m c) (hl : news.length = m * size) (hnews : ∀ j u, news[j]? = some u → w.cell? (ad.add j) = some u) (h1 : ∀ u ∈ news, u.oneCell' = true)
    (h63 : n + m ≤ maxLen) (hbytes : (n + m) * bytes ≤ 140737488355328) (hbase : base ≤ w.heap.size)
    (h : ∀ g' c' w', w'.ownsRow base e size (.slice (some ⟨g', 0, none⟩) (n + m) c') (n + m) (xs ++ news) → w.grownBy w' (some gv) → (g' = gv ∨ w.heap.size ≤ g') → wpList P ops Q rest (a.put o.dst (.slice (some ⟨g', 0, none⟩) (n + m) c')) w') : wpList P ops Q (o :: rest) a w :=
  wpList_plain hgd fun _ hK => by
    obtain ⟨g', c', w', hr, h2, h3, h4⟩ := run_append_fr (P := P) w base t o.type e i z size bytes ht hi hz hsize hby hzs hsz gv cap n xs hown ad m c news hl hnews h1 h63 hbytes hbase
    unfold Oper.wp execOp
    simp only [ho, resolve, invoke, builtin, Sem.run_bind, Sem.run_pure, Result.andThen_ok, List.map_toArray, List.map_cons, List.map_nil, hs, hx, hr]
    exact hK _ _ (h g' c' w' h2 h3 h4)
end Go.Proofs.Ytibciflmalfbjaa

/-!   What a closure that is handed on may turn; an append at a list that may be nil; the closure that notes a choice. -/
namespace Go.Proofs.Ytibciflmalfbjaa
open Go.RowKit
set_option linter.unusedVariables false
set_option linter.unusedSimpArgs false
/-- all but the blocks D lies as it lay, and what is turned next is one of these or new -/
structure Kpt (D : Nat → Prop) (w : World) (D' : Nat → Prop) (w' : World) : Prop where
  os : w'.os = w.os
  tape : w'.tape = w.tape
  output : w'.output = w.output
  size : w.heap.size ≤ w'.heap.size
  block : ∀ k, k < w.heap.size → ¬ D k → w'.heap[k]? = w.heap[k]?
  sub : ∀ k, D' k → D k ∨ w.heap.size ≤ k
theorem Kpt.refl (D : Nat → Prop) (w : World) : Kpt D w D w := ⟨rfl, rfl, rfl, Nat.le_refl _, fun _ _ _ => rfl, fun _ h => Or.inl h⟩
theorem Kpt.trans {D D' D'' : Nat → Prop} {w w' w'' : World} (h : Kpt D w D' w') (k : Kpt D' w' D'' w'') : Kpt D w D'' w'' :=
  ⟨k.os.trans h.os, k.tape.trans h.tape, k.output.trans h.output, Nat.le_trans h.size k.size, fun i hi hn => (k.block i (Nat.lt_of_lt_of_le hi h.size) (fun c => by rcases h.sub i c with c | c; exact hn c; omega)).trans (h.block i hi hn),
    fun i hi => by rcases k.sub i hi with c | c; exact h.sub i c; exact Or.inr (Nat.le_trans h.size c)⟩
theorem Kpt.below {D : Nat → Prop} {w w' : World} (h : Below w.heap.size w w') : Kpt D w D w' := ⟨h.os, h.tape, h.output, h.size, fun k hk _ => h.block k hk, fun _ h => Or.inl h⟩
theorem Kpt.toBelow {D D' : Nat → Prop} {w w' : World} {B : Nat} (h : Kpt D w D' w') (hB : B ≤ w.heap.size) (hD : ∀ k, D k → B ≤ k) : Below B w w' :=
  ⟨h.os, h.tape, h.output, h.size, fun k hk => h.block k (by omega) (fun c => by have := hD k c; omega)⟩
theorem Kpt.out {D D' : Nat → Prop} {w w' : World} {k : Nat} (h : Kpt D w D' w') (hk : k < w.heap.size) (hn : ¬ D k) : ¬ D' k := fun c => by rcases h.sub k c with c | c; exact hn c; omega
theorem Kpt.setNew {D D' : Nat → Prop} {w w' : World} {b t : Nat} {v : Value} (h : Kpt D w D' w') (hb : w.heap.size ≤ b) : Kpt D w D' (w'.setCell ⟨b, t, none⟩ v) :=
  ⟨h.os, h.tape, h.output, by simpa using h.size, fun k hk hn => (heap_setCell_other _ _ _ _ (by show k ≠ b; omega)).trans (h.block k hk hn), h.sub⟩
theorem owns_row_of {w w' : World} {B n : Nat} {e : TypeId} {z : Nat} {v : Value} {xs : List Value} (h : w.ownsRow B e z v n xs) (hk : ∀ k, v.ownBlock = some k → w'.heap[k]? = w.heap[k]?) : w'.ownsRow B e z v n xs := by
  obtain ⟨h0, h1 | ⟨g, cap, cur, h1, h2, h3, h4⟩⟩ := h
  · exact ⟨h0, Or.inl h1⟩
  · exact ⟨h0, Or.inr ⟨g, cap, cur, h1, h2, (hk g (by rw [h1]; rfl)).trans h3, h4⟩⟩
theorem run_append_fr2 {P : Program} (w : World) (base : Nat) (t ty e : TypeId) (i : TypeInfo) (z : Value) (size bytes : Nat) (ht : P.underlying t = some (.slice e)) (hi : P.info? e = some i) (hz : i.zero = some z)
    (hsize : i.size = size) (hby : i.bytes = bytes) (hzs : z.cells.size = size) (hsz : 0 < size) (v : Value) (n : Nat) (xs : List Value) (hown : w.ownsRow base e size v n xs)
    (a : Addr) (m c : Nat) (news : List Value) (hl : news.length = m * size) (hnews : ∀ j u, news[j]? = some u → w.cell? (a.add j) = some u) (h1 : ∀ u ∈ news, u.oneCell' = true)
    (h63 : n + m ≤ maxLen) (hbytes : (n + m) * bytes ≤ 140737488355328) (hbase : base ≤ w.heap.size) :
    ∃ v' w', (Builtin.append_ #[t, t] ty #[v, .slice (some a) m c]).run P w = .ok v' w' ∧ w'.ownsRow base e size v' (n + m) (xs ++ news) ∧ w.grownBy w' v.ownBlock ∧ (∀ k, v'.ownBlock = some k → v.ownBlock = some k ∨ w.heap.size ≤ k) := by
  have hown0 := hown
  obtain ⟨h0, ⟨h2, h3⟩ | ⟨g, cp, cur, h2, h3, h4, h5, h6, h7, h8⟩⟩ := hown
  · subst h2
    subst h3
    obtain rfl : xs = [] := List.eq_nil_of_length_eq_zero (by simpa using h0)
    obtain ⟨v', w', hr, o1, o2, _⟩ := run_append_own (P := P) w w.heap.size t ty e i z size bytes ht hi hz hsize hby hzs hsz _ 0 [] (World.ownsRow_nil w w.heap.size e size) a m c news hl hnews h1 h63 hbytes (Nat.le_refl _)
    exact ⟨v', w', hr, owns_lower o1 hbase, o2, fun k hk => Or.inr (o1.lt k hk).1⟩
  · subst h2
    obtain ⟨g', c', w', hr, o1, o2, o3⟩ := run_append_fr (P := P) w base t ty e i z size bytes ht hi hz hsize hby hzs hsz g cp n xs hown0 a m c news hl hnews h1 h63 hbytes hbase
    refine ⟨_, w', hr, o1, o2, fun k hk => ?_⟩
    have hk : g' = k := Option.some.inj hk
    subst hk
    rcases o3 with h | h
    · exact Or.inl (by rw [h]; rfl)
    · exact Or.inr h
theorem wpList_append_fr2 {P : Program} (w : World) {ops : Array Oper} {rest : List Oper} {o : Oper} {a : Act} {Q : Exit → Act → World → Prop} (hgd : o.guard = none) (s x : Operand) (t : TypeId)
    (ho : o.op = .call { callee := .builtin .append, args := #[s, x], argTypes := #[t, t] })
    (base : Nat) (e : TypeId) (i : TypeInfo) (z : Value) (size bytes : Nat) (ht : P.underlying t = some (.slice e)) (hi : P.info? e = some i) (hz : i.zero = some z)
    (hsize : i.size = size) (hby : i.bytes = bytes) (hzs : z.cells.size = size) (hsz : 0 < size)
    (v : Value) (n : Nat) (xs : List Value) (hs : a.eval s = v) (hown : w.ownsRow base e size v n xs)
    (ad : Addr) (m c : Nat) (news : List Value) (hx : a.eval x = .slice (some ad) m c) (hl : news.length = m * size) (hnews : ∀ j u, news[j]? = some u → w.cell? (ad.add j) = some u) (h1 : ∀ u ∈ news, u.oneCell' = true)
    (h63 : n + m ≤ maxLen) (hbytes : (n + m) * bytes ≤ 140737488355328) (hbase : base ≤ w.heap.size)
    (h : ∀ v' w', w'.ownsRow base e size v' (n + m) (xs ++ news) → w.grownBy w' v.ownBlock → (∀ k, v'.ownBlock = some k → v.ownBlock = some k ∨ w.heap.size ≤ k) → wpList P ops Q rest (a.put o.dst v') w') : wpList P ops Q (o :: rest) a w :=
  wpList_plain hgd fun _ hK => by
    obtain ⟨v', w', hr, h2, h3, h4⟩ := run_append_fr2 (P := P) w base t o.type e i z size bytes ht hi hz hsize hby hzs hsz v n xs hown ad m c news hl hnews h1 h63 hbytes hbase
    unfold Oper.wp execOp
    simp only [ho, resolve, invoke, builtin, Sem.run_bind, Sem.run_pure, Result.andThen_ok, List.map_toArray, List.map_cons, List.map_nil, hs, hx, hr]
    exact hK _ _ (h v' w' h2 h3 h4)
theorem Try.infCho : (Try.prog.info? 106).map (fun i => (i.zero, i.size, i.bytes)) = some (some (.agg #[.int .i64 0, .int .i64 0]), 2, 16) := by kernel_rfl
/-- the noted choices, in the variable at block bx -/
def NS (B bx : Nat) (w : World) (L : List (Nat × Nat)) (D : Nat → Prop) : Prop := ∃ v, w.heap[bx]? = some (.cells #[v] 58 (0, 0)) ∧ w.ownsRow B 106 2 v L.length (cC L) ∧ B ≤ bx ∧ D = (fun k => k = bx ∨ v.ownBlock = some k)
theorem NS.stay {B bx : Nat} {w w' : World} {L : List (Nat × Nat)} {D : Nat → Prop} (h : NS B bx w L D) (hk : ∀ k, D k → w'.heap[k]? = w.heap[k]?) : NS B bx w' L D := by
  obtain ⟨v, h1, h2, h3, rfl⟩ := h
  exact ⟨v, (hk bx (Or.inl rfl)).trans h1, owns_row_of h2 (fun k h => hk k (Or.inr h)), h3, rfl⟩
theorem NS.lt {B bx : Nat} {w : World} {L : List (Nat × Nat)} {D : Nat → Prop} (h : NS B bx w L D) : ∀ k, D k → B ≤ k ∧ k < w.heap.size := by
  obtain ⟨v, h1, h2, h3, rfl⟩ := h
  intro k hk
  rcases hk with rfl | hk
  · exact ⟨h3, (Array.getElem?_eq_some_iff.1 h1).1⟩
  · exact h2.lt k hk
set_option maxRecDepth 100000 in
set_option maxHeartbeats 1000000 in
theorem note_any (B bx : Nat) (w : World) (L : List (Nat × Nat)) (D : Nat → Prop) (c t : Nat) (h : NS B bx w L D) (hL : L.length ≤ 100000) (hBw : B ≤ w.heap.size) :
    Calls Try.prog 60 #[.int .i64 (c : Int), .int .i64 (t : Int), .pointer (some ⟨bx, 0, none⟩)] w fun e w' => e = .returned (.int .i64 (t : Int)) ∧ ∃ D', NS B bx w' (L ++ [(c, t)]) D' ∧ Kpt D w D' w' := by
  obtain ⟨i0, hi0, hz0, hz1, hz2⟩ := info_parts Try.infCho
  obtain ⟨v, h1, h2, h3, hD⟩ := h
  have x0 : w.cell? ⟨bx, 0, none⟩ = some v := cell_of_row _ _ _ _ _ _ h1
  have hbl := (Array.getElem?_eq_some_iff.1 h1).1
  have hne : some bx ≠ v.ownBlock := by
    obtain ⟨_, ⟨h0, _⟩ | ⟨g, cap, cur, h0, _, h5, _⟩⟩ := h2
    · rw [h0]; intro c; cases c
    · rw [h0]; intro c
      have c : bx = g := Option.some.inj c
      subst c
      rw [h5] at h1
      cases h1
  have HN : Hid (some bx ≠ v.ownBlock) := hne
  have HR : Hid (w.heap[bx]? = some (.cells #[v] 58 (0, 0))) := h1
  have HO : Hid (w.ownsRow B 106 2 v L.length (cC L)) := h2
  have HSN : Hid (cC (L ++ [(c, t)]) = cC L ++ [.int .i64 (c : Int), .int .i64 (t : Int)]) := cC_snoc _ _ _
  have HBL : Hid (bx < w.heap.size ∧ B ≤ bx) := ⟨hbl, h3⟩
  have HD : Hid (D = fun k => k = bx ∨ v.ownBlock = some k) := hD
  clear h1 h2 h3 hne hbl hD
  go_enter Try.func60, Try.ntmps60
  go_wp2_with (at_builtin; refine wpList_append_fr2 _ rfl _ _ 58 rfl B 106 i0 (.agg #[.int .i64 0, .int .i64 0]) 2 16 Try.underlying58 hi0 hz0 hz1 hz2 rfl (by decide) v L.length _ rfl (HO.out.alloc _) ⟨w.heap.size, 0, none⟩ 1 1 [_, _] rfl rfl cell_two ?c2 ?c3 ?c4 ?c5 ?_)
  case c2 => first | exact ⟨rfl, rfl⟩ | (intro u hu; simp at hu; rcases hu with rfl | rfl <;> rfl)
  case c3 => unfold maxLen; omega
  case c4 => omega
  case c5 => first | omega | (simp; omega)
  intro v' w3 ho hg hf
  have hr3 : w3.heap[bx]? = some (.cells #[v] 58 (0, 0)) := (hg.block bx (by simp; have := HBL.out.1; omega) HN.out).trans ((Below.heap_alloc _ _ _ HBL.out.1).trans HR.out)
  have y0 : w3.cell? ⟨bx, 0, none⟩ = some v := cell_of_row _ _ _ _ _ _ hr3
  have z0 := frozen_of_row w3 bx 0 _ _ hr3
  have hsz := hg.size
  have HF : Hid (∃ D', NS B bx (w3.setCell ⟨bx, 0, none⟩ v') (L ++ [(c, t)]) D' ∧ Kpt D w D' (w3.setCell ⟨bx, 0, none⟩ v')) := by
    have hsz' : w.heap.size + 1 ≤ w3.heap.size := by simpa using hsz
    have hf' : ∀ k, v'.ownBlock = some k → v.ownBlock = some k ∨ w.heap.size + 1 ≤ k := fun k hk => by
      rcases hf k hk with h | h
      · exact Or.inl h
      · exact Or.inr (by simpa using h)
    have hnb : ∀ k, v'.ownBlock = some k → k ≠ bx := fun k hk e => by
      subst e
      rcases hf' _ hk with h | h
      · exact HN.out h.symm
      · have := HBL.out.1; omega
    refine ⟨fun k => k = bx ∨ v'.ownBlock = some k, ⟨v', heap_setCell_same _ _ _ _ _ _ hr3, ?_, HBL.out.2, rfl⟩, ⟨hg.os, hg.tape, hg.output, by simpa using (by omega : w.heap.size ≤ w3.heap.size), fun k hk hn => ?_, fun k hk => ?_⟩⟩
    · refine owns_row_of (w := w3) ?_ (fun k hk => heap_setCell_other _ _ _ _ (hnb k hk))
      rw [HSN.out, List.length_append]; exact ho
    · rw [HD.out] at hn
      have hn1 : k ≠ bx := fun e => hn (Or.inl e)
      have hn2 : some k ≠ v.ownBlock := fun e => hn (Or.inr e.symm)
      rw [heap_setCell_other _ _ _ _ hn1]
      exact (hg.block k (by simp; omega) hn2).trans (Below.heap_alloc _ _ _ hk)
    · rw [HD.out]
      rcases hk with h | h
      · exact Or.inl (Or.inl h)
      · rcases hf' k h with h | h
        · exact Or.inl (Or.inr h)
        · exact Or.inr (by omega)
  obtain ⟨gq, cq, hvq⟩ : ∃ gq cq, v' = .slice (some ⟨gq, 0, none⟩) (L.length + 1) cq := by
    obtain ⟨_, ⟨_, h0⟩ | ⟨g, cap, cur, h0, _⟩⟩ := ho
    · omega
    · exact ⟨g, cap, h0⟩
  subst hvq
  clear ho hg hf hr3 hsz
  go_wp2_with fail
  go_ret
  exact ⟨rfl, HF.out⟩
end Go.Proofs.Ytibciflmalfbjaa

/-!   A number in a tree, bit by bit, whoever tells the bits. -/
namespace Go.Proofs.Ytibciflmalfbjaa
open Go.RowKit
set_option linter.unusedVariables false
def nIntT : Value → Int | .int _ q => q | _ => 0
/-- the bit of a number -/
def tvT (v : Int) (k : Nat) : Nat := (v / (2 : Int) ^ k % 2).toNat
def thT {σ : Type} (bit : σ → Nat → Nat → Nat) (nxt : σ → Nat → Nat → σ) (f : Nat) (v : Int) : Nat → Nat → σ → σ × Nat
  | 0, nd, s => (s, nd)
  | k + 1, nd, s => thT bit nxt f v k (2 * nd + bit s (f + nd) (tvT v k)) (nxt s (f + nd) (tvT v k))
theorem div_bd {v : Int} (h1 : -4611686018427387904 ≤ v) (h2 : v < 4611686018427387904) (j : Nat) : -4611686018427387904 ≤ v / (2 : Int) ^ j ∧ v / (2 : Int) ^ j < 4611686018427387904 := by
  have hp : (1 : Int) ≤ (2 : Int) ^ j := by
    have : 0 < (2 : Int) ^ j := Int.pow_pos (by decide)
    omega
  generalize (2 : Int) ^ j = P at hp
  constructor
  · rw [Int.le_ediv_iff_mul_le (by omega)]
    omega
  · rw [Int.ediv_lt_iff_lt_mul (by omega)]
    omega
theorem i64_and1 (n : Int) (h1 : -9223372036854775808 ≤ n) (h2 : n < 9223372036854775808) : bits .and .i64 n 1 = n % 2 := by
  have h32 : (BitVec.ofInt 64 1).toNat = 2 ^ 1 - 1 := by decide
  have key : (BitVec.ofInt 64 n &&& BitVec.ofInt 64 1).toNat = (n % ((2 ^ 64 : Nat) : Int)).toNat % 2 ^ 1 := by
    rw [BitVec.toNat_and, BitVec.toNat_ofInt, h32, Nat.and_two_pow_sub_one_eq_mod]
  show IntKind.i64.wrap ((BitVec.ofInt 64 n &&& BitVec.ofInt 64 1).toNat : Nat) = n % 2
  rw [key, IntKind.wrap_i64]
  omega
end Go.Proofs.Ytibciflmalfbjaa

/-!   The code's way through the bits of a token, by a closure that is handed on. -/
namespace Go.Proofs.Ytibciflmalfbjaa
open Go.RowKit
set_option linter.unusedVariables false
set_option linter.unusedSimpArgs false
set_option maxRecDepth 100000 in
set_option maxHeartbeats 1000000 in
theorem ntree_any {σ : Type} (PS : World → σ → (Nat → Prop) → Prop) (bit : σ → Nat → Nat → Nat) (nxt : σ → Nat → Nat → σ) (sz : σ → Nat) (lim : Nat) (bx : Nat)
    (hP : ∀ w s D c t, PS w s D → sz s ≤ lim → c < 512 → t < 2 → Calls Try.prog 60 #[.int .i64 ((c : Nat) : Int), .int .i64 ((t : Nat) : Int), .pointer (some ⟨bx, 0, none⟩)] w fun e w' => e = .returned (.int .i64 ((bit s c t : Nat) : Int)) ∧ ∃ D', PS w' (nxt s c t) D' ∧ Kpt D w D' w')
    (hB : ∀ s c t, t < 2 → bit s c t < 2) (hS : ∀ w w' s D, PS w s D → (∀ k, D k → w'.heap[k]? = w.heap[k]?) → PS w' s D)
    (hZ : ∀ s c t, sz (nxt s c t) ≤ sz s + 1) (p5 f nb : Nat) (fI nbI v : Int) (s : σ) (D : Nat → Prop) (w : World) (hfI : fI = (f : Int)) (hnI : nbI = (nb : Int)) (hnb : nb = 8 ∨ nb = 6) (hf : f ≤ 400 ∧ (nb = 8 → f ≤ 1)) (hv : -4611686018427387904 ≤ v ∧ v < 4611686018427387904) (hps : PS w s D) (hsz : sz s + 8 ≤ lim) (hp5 : w.cell? ⟨p5, 0, none⟩ = some (.func (.func 60) #[] #[.pointer (some ⟨bx, 0, none⟩)])) (hn5 : ¬ D p5) :
    Calls Try.prog 77 #[.int .i64 fI, .int .i64 nbI, .int .i64 v, .pointer (some ⟨p5, 0, none⟩)] w fun e w' => e = .returned (.int .i64 (((thT bit nxt f v nb 1 s).2 - 2 ^ nb : Nat) : Int)) ∧ ∃ D', PS w' (thT bit nxt f v nb 1 s).1 D' ∧ Kpt D w D' w' := by
  have HP : Hid (∀ w s D c t, PS w s D → sz s ≤ lim → c < 512 → t < 2 → Calls Try.prog 60 #[.int .i64 ((c : Nat) : Int), .int .i64 ((t : Nat) : Int), .pointer (some ⟨bx, 0, none⟩)] w fun e w' => e = .returned (.int .i64 ((bit s c t : Nat) : Int)) ∧ ∃ D', PS w' (nxt s c t) D' ∧ Kpt D w D' w') := hP
  have HB : Hid (∀ s c t, t < 2 → bit s c t < 2) := hB
  have HS : Hid (∀ w w' s D, PS w s D → (∀ k, D k → w'.heap[k]? = w.heap[k]?) → PS w' s D) := hS
  obtain ⟨R, hR⟩ : ∃ R, R = thT bit nxt f v nb 1 s := ⟨_, rfl⟩
  have HR : Hid (R = thT bit nxt f v nb 1 s) := hR
  rw [← hR]
  have HPS : Hid (PS w s D) := hps
  have HZ : Hid (∀ s c t, sz (nxt s c t) ≤ sz s + 1) := hZ
  have HSZ : Hid (sz s + 8 ≤ lim) := hsz
  have HP5 : Hid (w.cell? ⟨p5, 0, none⟩ = some (.func (.func 60) #[] #[.pointer (some ⟨bx, 0, none⟩)]) ∧ ¬ D p5) := ⟨hp5, hn5⟩
  have HFB : Hid (nb ≤ 8 ∧ ∀ j d, j < nb → d < 2 ^ (nb - j) → f + d < 512) := by
    rcases hnb with rfl | rfl
    · refine ⟨by omega, fun j d hj hd => ?_⟩
      have := hf.2 rfl
      have : 2 ^ (8 - j) ≤ 2 ^ 8 := Nat.pow_le_pow_right (by omega) (by omega)
      omega
    · refine ⟨by omega, fun j d hj hd => ?_⟩
      have : 2 ^ (6 - j) ≤ 2 ^ 6 := Nat.pow_le_pow_right (by omega) (by omega)
      omega
  have HN : Hid (nb = 8 ∨ nb = 6) := hnb
  have hnb8 : nb ≤ 8 := HFB.out.1
  have hf4 := hf.1
  obtain ⟨hv1, hv2⟩ := hv
  subst hfI
  subst hnI
  clear hP hB hS hR hps hZ hsz hp5 hn5 hnb hf
  go_enter Try.func77, Try.ntmps77
  go_wp2_with fail
  go_loopw [8, 9] (fun x i wr => ∃ (k d : Nat) (s1 : σ) (D1 : Nat → Prop), x = .int .i64 (d : Int) ∧ i = .int .i64 ((k : Int) - 1) ∧ k ≤ nb ∧ d < 2 ^ (nb - k + 1) ∧ 2 ^ (nb - k) ≤ d ∧ Hid (R = thT bit nxt f v k d s1) ∧ Hid (PS wr s1 D1 ∧ Kpt D w D1 wr) ∧ Hid (sz s1 + k ≤ sz s + nb)) (fun _ i _ => (nIntT i + 1).toNat)
  case atStart => exact ⟨nb, 1, s, D, rfl, rfl, Nat.le_refl _, by rw [Nat.sub_self]; decide, by rw [Nat.sub_self]; decide, HR, ⟨HPS.out, Kpt.refl _ _⟩, Nat.le_refl _⟩
  case round =>
    obtain ⟨k, d, s1, D1, rfl, rfl, hk, hd, hd1, HRR, HK, HZ1⟩ := hrel
    have hd9 : d < 512 := Nat.lt_of_lt_of_le hd (Nat.pow_le_pow_right (by omega) (by omega : nb - k + 1 ≤ 9))
    by_cases hk0 : k = 0
    · subst hk0
      have HF : Hid (R = (s1, d) ∧ 2 ^ nb ≤ d ∧ PS wr s1 D1 ∧ Kpt D w D1 wr) := ⟨HRR.out, hd1, HK.out⟩
      clear hd hd1 HRR HK hk HZ1
      rcases HN.out with e | e
      · subst e
        have hge : (256 : Nat) ≤ d := HF.out.2.1
        have hsb : (d : Int) - 256 = ((d - 256 : Nat) : Int) := by omega
        have hsw : IntKind.i64.wrap ((d : Int) - 256) = ((d - 256 : Nat) : Int) := by rw [IntKind.wrap_i64]; omega
        go_wp2_with fail
        go_ret
        exact ⟨by rw [HF.out.1]; first | rfl | (simp only []; rw [← hsb]; rfl), by rw [HF.out.1]; exact ⟨D1, HF.out.2.2⟩⟩
      · subst e
        have hge : (64 : Nat) ≤ d := HF.out.2.1
        have hsb : (d : Int) - 64 = ((d - 64 : Nat) : Int) := by omega
        have hsw : IntKind.i64.wrap ((d : Int) - 64) = ((d - 64 : Nat) : Int) := by rw [IntKind.wrap_i64]; omega
        go_wp2_with fail
        go_ret
        exact ⟨by rw [HF.out.1]; first | rfl | (simp only []; rw [← hsb]; rfl), by rw [HF.out.1]; exact ⟨D1, HF.out.2.2⟩⟩
    · obtain ⟨j, rfl⟩ : ∃ j, k = j + 1 := ⟨k - 1, by omega⟩
      have e1 : ((j + 1 : Nat) : Int) - 1 = (j : Int) := by omega
      rw [e1]
      obtain ⟨q, hq⟩ : ∃ q, q = v / (2 : Int) ^ j := ⟨_, rfl⟩
      obtain ⟨t, ht⟩ : ∃ t, t = tvT v j := ⟨_, rfl⟩
      have hshr : v / (2 : Int) ^ j = q := hq.symm
      have htq : q % 2 = (t : Int) := by rw [ht, hq]; unfold tvT; omega
      have ht2 : t < 2 := by omega
      have hqb : -4611686018427387904 ≤ q ∧ q < 4611686018427387904 := by rw [hq]; exact div_bd hv1 hv2 j
      have hand : bits .and .i64 q 1 = (t : Int) := by rw [i64_and1 _ (by omega) (by omega)]; exact htq
      obtain ⟨z, hz⟩ : ∃ z, z = f + d := ⟨_, rfl⟩
      have hz5 : z < 512 := by
        have := HFB.out.2 j d (by omega) (by have e : nb - j = nb - (j + 1) + 1 := by omega
                                             rw [e]; exact hd)
        omega
      have hw1 : IntKind.i64.wrap ((f : Int) + (d : Int)) = (z : Int) := by rw [IntKind.wrap_i64]; omega
      have hw1b : (f : Int) + (d : Int) = (z : Int) := by omega
      have hw2 : IntKind.i64.wrap (2 * (d : Int)) = 2 * (d : Int) := by rw [IntKind.wrap_i64]; omega
      have hb := HB.out s1 z t ht2
      obtain ⟨bt, hbt⟩ : ∃ bt, bt = bit s1 z t := ⟨_, rfl⟩
      rw [← hbt] at hb
      obtain ⟨nd, hnd⟩ : ∃ nd, nd = 2 * d + bt := ⟨_, rfl⟩
      have hw3b : 2 * (d : Int) + (bt : Int) = (nd : Int) := by omega
      have hw3 : IntKind.i64.wrap (nd : Int) = (nd : Int) := by rw [IntKind.wrap_i64]; omega
      have HRN : Hid (R = thT bit nxt f v j nd (nxt s1 z t)) := by
        show R = _
        rw [HRR.out, thT, ← ht, ← hz, ← hbt, ← hnd]
      have HPC : Hid (Calls Try.prog 60 #[.int .i64 (z : Int), .int .i64 (t : Int), .pointer (some ⟨bx, 0, none⟩)] wr.drew fun e w' => e = .returned (.int .i64 (bt : Int)) ∧ ∃ D', PS w' (nxt s1 z t) D' ∧ Kpt D1 wr.drew D' w') := by
        have h := HP.out wr.drew s1 D1 z t (HS.out wr wr.drew s1 D1 HK.out.1 (fun _ _ => rfl)) (by have h1 := HZ1.out; have h2 := HSZ.out; omega) hz5 ht2
        rw [← hbt] at h
        exact h
      have hnd2 : nd < 2 ^ (nb - j + 1) ∧ 2 ^ (nb - j) ≤ nd := by
        have e : nb - j = nb - (j + 1) + 1 := by omega
        rw [e, Nat.pow_succ, Nat.pow_succ]
        rw [Nat.pow_succ] at hd
        omega
      have hlt5 : p5 < w.heap.size := World.block_lt_of_cell? w ⟨p5, 0, none⟩ HP5.out.1
      have x5 : wr.cell? ⟨p5, 0, none⟩ = some (.func (.func 60) #[] #[.pointer (some ⟨bx, 0, none⟩)]) := (World.cell?_of_block (a := ⟨p5, 0, none⟩) (HK.out.2.block p5 hlt5 HP5.out.2)).trans HP5.out.1
      have H5 : Hid (p5 < wr.heap.size ∧ ¬ D1 p5) := ⟨Nat.lt_of_lt_of_le hlt5 HK.out.2.size, HK.out.2.out hlt5 HP5.out.2⟩
      have HZN : Hid (sz (nxt s1 z t) + j ≤ sz s + nb) := by
        have h1 := HZ1.out
        have h2 := HZ.out s1 z t
        show _ ≤ _
        omega
      clear hd hd1 HRR HZ1 hq ht hz hbt hnd htq hqb hlt5 hz5 e1
      go_wp2_with fail
      obtain ⟨S, hSS⟩ : ∃ S : World → Prop, S = fun w' => w'.cell? ⟨p5, 0, none⟩ = some (.func (.func 60) #[] #[.pointer (some ⟨bx, 0, none⟩)]) := ⟨_, rfl⟩
      have HSS : Hid (S = fun w' => w'.cell? ⟨p5, 0, none⟩ = some (.func (.func 60) #[] #[.pointer (some ⟨bx, 0, none⟩)])) := hSS
      have hSd : S wr.drew := by rw [hSS]; exact x5
      have HX5 : Hid (∀ w', S w' → w'.cell? ⟨p5, 0, none⟩ = some (.func (.func 60) #[] #[.pointer (some ⟨bx, 0, none⟩)])) := fun w' h => by rw [hSS] at h; exact h
      clear hSS x5
      refine wp_region_held (S := S) (by kernel_rfl) ?_
      change wpAnyH _ _ _ _ _ _ _ _ (World.drew _)
      refine wpAnyH_take (i := 0) (v := .int .i64 (d : Int)) rfl (by kernel_rfl) (by kernel_rfl) (by kernel_rfl) (fun _ _ _ h => h) (Or.inl ⟨by rfl, by intro w' hS'; go_simp <;> (first | omega | (rw [IntKind.wrap_i64]; omega) | (rw [IntKind.wrap_u64]; omega) | (rw [IntKind.wrap_u32]; omega) | (rw [Int.tmod_eq_emod_of_nonneg (by omega)]))⟩) hSd ?_
      (try simp only [List.getElem_toArray, List.getElem_cons_succ, List.getElem_cons_zero, Act.put, List.setIfInBounds_toArray, List.set_cons_zero, List.set_cons_succ])
      refine wpAnyH_take (i := 1) (v := .int .i64 (2 * (d : Int))) rfl (by kernel_rfl) (by kernel_rfl) (by kernel_rfl) (fun _ _ _ h => h) (Or.inl ⟨by rfl, by intro w' hS'; go_simp <;> (first | omega | (rw [IntKind.wrap_i64]; omega) | (rw [IntKind.wrap_u64]; omega) | (rw [IntKind.wrap_u32]; omega) | (rw [Int.tmod_eq_emod_of_nonneg (by omega)]))⟩) hSd ?_
      (try simp only [List.getElem_toArray, List.getElem_cons_succ, List.getElem_cons_zero, Act.put, List.setIfInBounds_toArray, List.set_cons_zero, List.set_cons_succ])
      refine wpAnyH_take (i := 2) (v := .func (.func 60) #[] #[.pointer (some ⟨bx, 0, none⟩)]) rfl (by kernel_rfl) (by kernel_rfl) (by kernel_rfl) (fun _ _ _ h => h) (Or.inl ⟨by rfl, by intro w' hS'; have hxx := HX5.out w' hS'; go_simp <;> (first | omega | (rw [IntKind.wrap_i64]; omega) | (rw [IntKind.wrap_u64]; omega) | (rw [IntKind.wrap_u32]; omega) | (rw [Int.tmod_eq_emod_of_nonneg (by omega)]))⟩) hSd ?_
      (try simp only [List.getElem_toArray, List.getElem_cons_succ, List.getElem_cons_zero, Act.put, List.setIfInBounds_toArray, List.set_cons_zero, List.set_cons_succ])
      refine wpAnyH_take (i := 3) (v := .int .i64 (f : Int)) rfl (by kernel_rfl) (by kernel_rfl) (by kernel_rfl) (fun _ _ _ h => h) (Or.inl ⟨by rfl, by intro w' hS'; go_simp <;> (first | omega | (rw [IntKind.wrap_i64]; omega) | (rw [IntKind.wrap_u64]; omega) | (rw [IntKind.wrap_u32]; omega) | (rw [Int.tmod_eq_emod_of_nonneg (by omega)]))⟩) hSd ?_
      (try simp only [List.getElem_toArray, List.getElem_cons_succ, List.getElem_cons_zero, Act.put, List.setIfInBounds_toArray, List.set_cons_zero, List.set_cons_succ])
      refine wpAnyH_take (i := 4) (v := .int .i64 (d : Int)) rfl (by kernel_rfl) (by kernel_rfl) (by kernel_rfl) (fun _ _ _ h => h) (Or.inl ⟨by rfl, by intro w' hS'; go_simp <;> (first | omega | (rw [IntKind.wrap_i64]; omega) | (rw [IntKind.wrap_u64]; omega) | (rw [IntKind.wrap_u32]; omega) | (rw [Int.tmod_eq_emod_of_nonneg (by omega)]))⟩) hSd ?_
      (try simp only [List.getElem_toArray, List.getElem_cons_succ, List.getElem_cons_zero, Act.put, List.setIfInBounds_toArray, List.set_cons_zero, List.set_cons_succ])
      refine wpAnyH_take (i := 5) (v := .int .i64 (z : Int)) rfl (by kernel_rfl) (by kernel_rfl) (by kernel_rfl) (fun _ _ _ h => h) (Or.inl ⟨by rfl, by intro w' hS'; go_simp <;> (first | omega | (rw [IntKind.wrap_i64]; omega) | (rw [IntKind.wrap_u64]; omega) | (rw [IntKind.wrap_u32]; omega) | (rw [Int.tmod_eq_emod_of_nonneg (by omega)]))⟩) hSd ?_
      (try simp only [List.getElem_toArray, List.getElem_cons_succ, List.getElem_cons_zero, Act.put, List.setIfInBounds_toArray, List.set_cons_zero, List.set_cons_succ])
      refine wpAnyH_take (i := 6) (v := .int .i64 v) rfl (by kernel_rfl) (by kernel_rfl) (by kernel_rfl) (fun _ _ _ h => h) (Or.inl ⟨by rfl, by intro w' hS'; go_simp <;> (first | omega | (rw [IntKind.wrap_i64]; omega) | (rw [IntKind.wrap_u64]; omega) | (rw [IntKind.wrap_u32]; omega) | (rw [Int.tmod_eq_emod_of_nonneg (by omega)]))⟩) hSd ?_
      (try simp only [List.getElem_toArray, List.getElem_cons_succ, List.getElem_cons_zero, Act.put, List.setIfInBounds_toArray, List.set_cons_zero, List.set_cons_succ])
      refine wpAnyH_take (i := 7) (v := .int .i64 (j : Int)) rfl (by kernel_rfl) (by kernel_rfl) (by kernel_rfl) (fun _ _ _ h => h) (Or.inl ⟨by rfl, by intro w' hS'; go_simp <;> (first | omega | (rw [IntKind.wrap_i64]; omega) | (rw [IntKind.wrap_u64]; omega) | (rw [IntKind.wrap_u32]; omega) | (rw [Int.tmod_eq_emod_of_nonneg (by omega)]))⟩) hSd ?_
      (try simp only [List.getElem_toArray, List.getElem_cons_succ, List.getElem_cons_zero, Act.put, List.setIfInBounds_toArray, List.set_cons_zero, List.set_cons_succ])
      refine wpAnyH_take (i := 8) (v := .int .i64 q) rfl (by kernel_rfl) (by kernel_rfl) (by kernel_rfl) (fun _ _ _ h => h) (Or.inl ⟨by rfl, by intro w' hS'; go_simp <;> (first | omega | (rw [IntKind.wrap_i64]; omega) | (rw [IntKind.wrap_u64]; omega) | (rw [IntKind.wrap_u32]; omega) | (rw [Int.tmod_eq_emod_of_nonneg (by omega)]))⟩) hSd ?_
      (try simp only [List.getElem_toArray, List.getElem_cons_succ, List.getElem_cons_zero, Act.put, List.setIfInBounds_toArray, List.set_cons_zero, List.set_cons_succ])
      refine wpAnyH_take (i := 9) (v := .int .i64 (t : Int)) rfl (by kernel_rfl) (by kernel_rfl) (by kernel_rfl) (fun _ _ _ h => h) (Or.inl ⟨by rfl, by intro w' hS'; go_simp <;> (first | omega | (rw [IntKind.wrap_i64]; omega) | (rw [IntKind.wrap_u64]; omega) | (rw [IntKind.wrap_u32]; omega) | (rw [Int.tmod_eq_emod_of_nonneg (by omega)]))⟩) hSd ?_
      (try simp only [List.getElem_toArray, List.getElem_cons_succ, List.getElem_cons_zero, Act.put, List.setIfInBounds_toArray, List.set_cons_zero, List.set_cons_succ])
      refine held_stepS (i := 10) (by kernel_rfl) rfl (by rfl) ?_
      go_simp
      refine HPC.out.mono ?_
      rintro e w5 ⟨rfl, D2, hp5, hk5⟩
      have hkk : Kpt D w D2 w5 := HK.out.2.trans (⟨hk5.os, hk5.tape, hk5.output, hk5.size, hk5.block, hk5.sub⟩ : Kpt D1 wr D2 w5)
      have hS5 : S w5 := by rw [HSS.out]; exact (World.cell?_of_block (a := ⟨p5, 0, none⟩) (hk5.block p5 H5.out.1 H5.out.2)).trans (HX5.out _ hSd)
      refine ⟨hS5, ?_⟩
      (try simp only [List.getElem_toArray, List.getElem_cons_succ, List.getElem_cons_zero, Act.put, List.setIfInBounds_toArray, List.set_cons_zero, List.set_cons_succ])
      refine wpAnyH_take (i := 11) (v := .int .i64 (nd : Int)) rfl (by kernel_rfl) (by kernel_rfl) (by kernel_rfl) (fun _ _ _ h => h) (Or.inl ⟨by rfl, by intro w' hS'; go_simp <;> (first | omega | (rw [IntKind.wrap_i64]; omega) | (rw [IntKind.wrap_u64]; omega) | (rw [IntKind.wrap_u32]; omega) | (rw [Int.tmod_eq_emod_of_nonneg (by omega)]))⟩) hS5 ?_
      (try simp only [List.getElem_toArray, List.getElem_cons_succ, List.getElem_cons_zero, Act.put, List.setIfInBounds_toArray, List.set_cons_zero, List.set_cons_succ])
      refine wpAnyH_take (i := 12) (v := .int .i64 (nd : Int)) rfl (by kernel_rfl) (by kernel_rfl) (by kernel_rfl) (fun _ _ _ h => h) (Or.inl ⟨by rfl, by intro w' hS'; go_simp <;> (first | omega | (rw [IntKind.wrap_i64]; omega) | (rw [IntKind.wrap_u64]; omega) | (rw [IntKind.wrap_u32]; omega) | (rw [Int.tmod_eq_emod_of_nonneg (by omega)]))⟩) hS5 ?_
      (try simp only [List.getElem_toArray, List.getElem_cons_succ, List.getElem_cons_zero, Act.put, List.setIfInBounds_toArray, List.set_cons_zero, List.set_cons_succ])
      refine wpAnyH_done (by kernel_rfl) ?_ _
      have HK5 : Hid (PS w5 (nxt s1 z t) D2 ∧ Kpt D w D2 w5) := ⟨hp5, hkk⟩
      clear hp5 hk5 hkk hS5 hSd HX5 HSS HPC HK H5
      go_wp2_with fail
      go_roundw
      case rel => exact ⟨j, nd, nxt s1 z t, D2, rfl, rfl, by omega, hnd2.1, hnd2.2, HRN, HK5.out, HZN.out⟩
      case measure => simp [nIntT] <;> omega
end Go.Proofs.Ytibciflmalfbjaa

/-!   The code's way through a token, by a closure that is handed on. -/
namespace Go.Proofs.Ytibciflmalfbjaa
open Go.RowKit
set_option linter.unusedVariables false
set_option linter.unusedSimpArgs false
/-- the boxes of the walk through a token -/
structure TB (A : Nat) (k b d l : Int) (pv : Value) (D : Nat → Prop) (w : World) : Prop where
  r0 : w.heap[A]? = some (.cells #[.int .i64 k, .int .i64 b, .int .i64 d, .int .i64 l] 95 (0, 0))
  r1 : w.heap[A + 1]? = some (.cells #[pv] 132 (0, 0))
  r2 : w.heap[A + 1 + 1]? = some (.cells #[.int .i64 0, .int .i64 0, .int .i64 0, .int .i64 0] 95 (0, 0))
  n0 : ¬ D A
  n1 : ¬ D (A + 1)
  n2 : ¬ D (A + 1 + 1)
theorem TB.next {A : Nat} {k b d l : Int} {pv : Value} {D D' : Nat → Prop} {w w' : World} (h : TB A k b d l pv D w) (hk : Kpt D w D' w') : TB A k b d l pv D' w' :=
  have l0 := (Array.getElem?_eq_some_iff.1 h.r0).1
  have l1 := (Array.getElem?_eq_some_iff.1 h.r1).1
  have l2 := (Array.getElem?_eq_some_iff.1 h.r2).1
  ⟨(hk.block _ l0 h.n0).trans h.r0, (hk.block _ l1 h.n1).trans h.r1, (hk.block _ l2 h.n2).trans h.r2, hk.out l0 h.n0, hk.out l1 h.n1, hk.out l2 h.n2⟩
/-- a token's bits, and what it is afterwards -/
def thTok {σ : Type} (bit : σ → Nat → Nat → Nat) (nxt : σ → Nat → Nat → σ) (a k : Nat) (b d l : Int) (s : σ) : σ × TkN :=
  if bit s a k = 0 then ((thT bit nxt 1 b 8 1 (nxt s a k)).1, ⟨0, (thT bit nxt 1 b 8 1 (nxt s a k)).2 - 2 ^ 8, 0, 0⟩)
  else
    let r1 := thT bit nxt 260 (l - 3) 6 1 (nxt s a k)
    let r2 := thT bit nxt 330 ((d - 1).tdiv 64) 6 1 r1.1
    let r3 := thT bit nxt 400 ((d - 1).tmod 64) 6 1 r2.1
    (r3.1, ⟨1, 0, (r2.2 - 2 ^ 6) * 64 + (r3.2 - 2 ^ 6) + 1, r1.2 - 2 ^ 6 + 3⟩)
theorem thT_sz {σ : Type} {bit : σ → Nat → Nat → Nat} {nxt : σ → Nat → Nat → σ} {sz : σ → Nat} (hZ : ∀ s c t, sz (nxt s c t) ≤ sz s + 1) (f : Nat) (v : Int) : ∀ (k nd : Nat) (s : σ), sz (thT bit nxt f v k nd s).1 ≤ sz s + k
  | 0, _, _ => Nat.le_refl _
  | k + 1, nd, s => by
    have h1 := hZ s (f + nd) (tvT v k)
    have h2 := thT_sz hZ (bit := bit) f v k (2 * nd + bit s (f + nd) (tvT v k)) (nxt s (f + nd) (tvT v k))
    show sz (thT bit nxt f v k _ _).1 ≤ _
    omega
theorem thT_lt {σ : Type} {bit : σ → Nat → Nat → Nat} {nxt : σ → Nat → Nat → σ} (hB : ∀ s c t, t < 2 → bit s c t < 2) (f : Nat) (v : Int) : ∀ (k nd m : Nat) (s : σ), nd < 2 ^ m → (thT bit nxt f v k nd s).2 < 2 ^ (m + k)
  | 0, _, _, _, h => h
  | k + 1, nd, m, s, h => by
    have ht : tvT v k < 2 := by unfold tvT; omega
    have hb := hB s (f + nd) _ ht
    have := thT_lt (nxt := nxt) hB f v k (2 * nd + bit s (f + nd) (tvT v k)) (m + 1) (nxt s (f + nd) (tvT v k)) (by rw [Nat.pow_succ]; omega)
    rw [show m + 1 + k = m + (k + 1) by omega] at this
    exact this
set_option maxRecDepth 100000 in
set_option maxHeartbeats 1000000 in
theorem nthrough_any {σ : Type} (PS : World → σ → (Nat → Prop) → Prop) (bit : σ → Nat → Nat → Nat) (nxt : σ → Nat → Nat → σ) (sz : σ → Nat) (lim : Nat) (bx : Nat)
    (hP : ∀ w s D c t, PS w s D → sz s ≤ lim → c < 512 → t < 2 → Calls Try.prog 60 #[.int .i64 ((c : Nat) : Int), .int .i64 ((t : Nat) : Int), .pointer (some ⟨bx, 0, none⟩)] w fun e w' => e = .returned (.int .i64 ((bit s c t : Nat) : Int)) ∧ ∃ D', PS w' (nxt s c t) D' ∧ Kpt D w D' w')
    (hB : ∀ s c t, t < 2 → bit s c t < 2) (hS : ∀ w w' s D, PS w s D → (∀ k, D k → w'.heap[k]? = w.heap[k]?) → PS w' s D) (hLT : ∀ w s D, PS w s D → ∀ k, D k → k < w.heap.size)
    (hZ : ∀ s c t, sz (nxt s c t) ≤ sz s + 1) (a k : Nat) (aI kI b d l : Int) (s : σ) (D : Nat → Prop) (w : World) (ha : a < 2) (hk : k < 2) (haI : aI = (a : Int)) (hkI : kI = (k : Int)) (hb : 0 ≤ b ∧ b ≤ 5000) (hd : 0 ≤ d ∧ d ≤ 5000) (hl : 0 ≤ l ∧ l ≤ 5000) (hps : PS w s D) (hsz : sz s + 21 ≤ lim) :
    Calls Try.prog 53 #[.agg #[.int .i64 kI, .int .i64 b, .int .i64 d, .int .i64 l], .int .i64 aI, .func (.func 60) #[] #[.pointer (some ⟨bx, 0, none⟩)]] w fun e w' => (∃ t, t = (thTok bit nxt a k b d l s).2 ∧ e = .returned (.agg #[.int .i64 (t.k : Int), .int .i64 (t.b : Int), .int .i64 (t.d : Int), .int .i64 (t.l : Int)])) ∧ ∃ D', PS w' (thTok bit nxt a k b d l s).1 D' ∧ Kpt D w D' w' := by
  have HTR : Hid (∀ (p5 f nb : Nat) (fI nbI v : Int) (s : σ) (D : Nat → Prop) (w : World) (n : Nat) (r : σ), n = (thT bit nxt f v nb 1 s).2 - 2 ^ nb → r = (thT bit nxt f v nb 1 s).1 → fI = (f : Int) → nbI = (nb : Int) → (nb = 8 ∨ nb = 6) → (f ≤ 400 ∧ (nb = 8 → f ≤ 1)) → (-4611686018427387904 ≤ v ∧ v < 4611686018427387904) → PS w s D → sz s + 8 ≤ lim → w.cell? ⟨p5, 0, none⟩ = some (.func (.func 60) #[] #[.pointer (some ⟨bx, 0, none⟩)]) → ¬ D p5 →
      Calls Try.prog 77 #[.int .i64 fI, .int .i64 nbI, .int .i64 v, .pointer (some ⟨p5, 0, none⟩)] w fun e w' => e = .returned (.int .i64 (n : Int)) ∧ ∃ D', PS w' r D' ∧ Kpt D w D' w') :=
    fun p5 f nb fI nbI v s D w n r e1 e2 h1 h2 h3 h4 h5 h6 h7 h8 h9 => by subst e1; subst e2; exact ntree_any PS bit nxt sz lim bx hP hB hS hZ p5 f nb fI nbI v s D w h1 h2 h3 h4 h5 h6 h7 h8 h9
  have HSS : Hid (∀ (D D' : Nat → Prop) (w w' : World) (s : σ) (B : Nat) (v0 v1 v2 v3 : Value), PS w' s D' → Kpt D w D' w' → ¬ D' B → w.heap.size ≤ B →
      PS ((((w'.setCell ⟨B, 0, none⟩ v0).setCell ⟨B, 1, none⟩ v1).setCell ⟨B, 2, none⟩ v2).setCell ⟨B, 3, none⟩ v3) s D' ∧ Kpt D w D' ((((w'.setCell ⟨B, 0, none⟩ v0).setCell ⟨B, 1, none⟩ v1).setCell ⟨B, 2, none⟩ v2).setCell ⟨B, 3, none⟩ v3)) :=
    fun D D' w w' s B v0 v1 v2 v3 h1 h2 h3 h4 => ⟨hS _ _ _ _ h1 (fun q hq => by
      have hn : q ≠ B := fun e => h3 (e ▸ hq)
      rw [heap_setCell_other _ _ _ _ hn, heap_setCell_other _ _ _ _ hn, heap_setCell_other _ _ _ _ hn, heap_setCell_other _ _ _ _ hn]), (((h2.setNew h4).setNew h4).setNew h4).setNew h4⟩
  have HLT : Hid (∀ f v s, (thT bit nxt f v 6 1 s).2 < 2 ^ 7) := fun f v s => thT_lt hB f v 6 1 1 s (by decide)
  obtain ⟨b0, hb0⟩ : ∃ b0, b0 = bit s a k := ⟨_, rfl⟩
  obtain ⟨s1, hs1⟩ : ∃ s1, s1 = nxt s a k := ⟨_, rfl⟩
  have hb2 : b0 < 2 := by rw [hb0]; exact hB s a k hk
  have hz1 : sz s1 ≤ sz s + 1 := by rw [hs1]; exact hZ s a k
  have HZT : Hid (∀ f v s, sz (thT bit nxt f v 6 1 s).1 ≤ sz s + 6) := fun f v s => thT_sz hZ f v 6 1 s
  obtain ⟨R, hR⟩ : ∃ R, R = thTok bit nxt a k b d l s := ⟨_, rfl⟩
  have HR : Hid (R = if b0 = 0 then ((thT bit nxt 1 b 8 1 s1).1, (⟨0, (thT bit nxt 1 b 8 1 s1).2 - 2 ^ 8, 0, 0⟩ : TkN))
      else ((thT bit nxt 400 ((d - 1).tmod 64) 6 1 (thT bit nxt 330 ((d - 1).tdiv 64) 6 1 (thT bit nxt 260 (l - 3) 6 1 s1).1).1).1, (⟨1, 0, ((thT bit nxt 330 ((d - 1).tdiv 64) 6 1 (thT bit nxt 260 (l - 3) 6 1 s1).1).2 - 2 ^ 6) * 64 + ((thT bit nxt 400 ((d - 1).tmod 64) 6 1 (thT bit nxt 330 ((d - 1).tdiv 64) 6 1 (thT bit nxt 260 (l - 3) 6 1 s1).1).1).2 - 2 ^ 6) + 1, (thT bit nxt 260 (l - 3) 6 1 s1).2 - 2 ^ 6 + 3⟩ : TkN))) := by
    show R = _
    rw [hR, hb0, hs1]; rfl
  rw [← hR]
  obtain ⟨w3, hw3⟩ : ∃ w3, w3 = ((w.alloc (.cells #[.int .i64 (k : Int), .int .i64 b, .int .i64 d, .int .i64 l] 95)).alloc (.cells #[.func (.func 60) #[] #[.pointer (some ⟨bx, 0, none⟩)]] 132)).alloc (.cells #[.int .i64 0, .int .i64 0, .int .i64 0, .int .i64 0] 95) := ⟨_, rfl⟩
  have hbl : Below w.heap.size w w3 := by
    rw [hw3]
    exact ((((Below.refl _ w).alloc (Nat.le_refl _) _).alloc (by simp <;> omega) _).alloc (by simp <;> omega) _)
  have HK3 : Hid (Kpt D w D w3) := Kpt.below hbl
  have hps3 : PS w3 s D := hS w w3 s D hps (fun q hq => hbl.block q (hLT w s D hps q hq))
  have HT3 : Hid (TB w.heap.size k b d l (.func (.func 60) #[] #[.pointer (some ⟨bx, 0, none⟩)]) D w3) := by
    have hno : ∀ j, ¬ D (w.heap.size + j) := fun j hj => by have := hLT w s D hps _ hj; omega
    refine ⟨?_, ?_, ?_, hno 0, hno 1, (by have := hno 2; simpa using this)⟩
    · rw [hw3]
      refine (Below.heap_alloc _ _ _ (by simp <;> omega)).trans ((Below.heap_alloc _ _ _ (by simp <;> omega)).trans (heap_alloc_new _ _))
    · rw [hw3]
      refine (Below.heap_alloc _ _ _ (by simp <;> omega)).trans ?_
      have := heap_alloc_new (w.alloc (.cells #[.int .i64 (k : Int), .int .i64 b, .int .i64 d, .int .i64 l] 95)) (.cells #[.func (.func 60) #[] #[.pointer (some ⟨bx, 0, none⟩)]] 132)
      simpa using this
    · rw [hw3]
      have := heap_alloc_new ((w.alloc (.cells #[.int .i64 (k : Int), .int .i64 b, .int .i64 d, .int .i64 l] 95)).alloc (.cells #[.func (.func 60) #[] #[.pointer (some ⟨bx, 0, none⟩)]] 132)) (.cells #[.int .i64 0, .int .i64 0, .int .i64 0, .int .i64 0] 95)
      simpa using this
  have HPC : Hid (Calls Try.prog 60 #[.int .i64 (a : Int), .int .i64 (k : Int), .pointer (some ⟨bx, 0, none⟩)] w3 fun e w' => e = .returned (.int .i64 (b0 : Int)) ∧ ∃ D', PS w' s1 D' ∧ Kpt D w3 D' w') := by
    have h := hP w3 s D a k hps3 (by omega) (by omega) hk
    rw [← hb0, ← hs1] at h
    exact h
  subst haI
  subst hkI
  have HW3 : Hid (w3 = _) := hw3
  obtain ⟨hb1, hb2'⟩ := hb
  obtain ⟨hd1, hd2⟩ := hd
  obtain ⟨hl1, hl2⟩ := hl
  clear hP hB hS hLT hZ hps hR hb0 hs1 hbl hps3 hw3
  go_enter Try.func53, Try.ntmps53
  go_wp2_with fail
  rw [← HW3.out]
  refine HPC.out.mono ?_
  rintro e w5 ⟨rfl, D5, hp5, hk5⟩
  have hT5 := HT3.out.next hk5
  have HS5 : Hid (PS w5 s1 D5 ∧ Kpt D w D5 w5) := ⟨hp5, HK3.out.trans hk5⟩
  have HT5 : Hid (TB w.heap.size k b d l (.func (.func 60) #[] #[.pointer (some ⟨bx, 0, none⟩)]) D5 w5) := hT5
  have x1 : w5.cell? ⟨w.heap.size, 1, none⟩ = some (.int .i64 b) := cell_of_row _ _ _ _ _ _ hT5.r0
  have x2 : w5.cell? ⟨w.heap.size, 2, none⟩ = some (.int .i64 d) := cell_of_row _ _ _ _ _ _ hT5.r0
  have x3 : w5.cell? ⟨w.heap.size, 3, none⟩ = some (.int .i64 l) := cell_of_row _ _ _ _ _ _ hT5.r0
  clear hT5 HT3 HK3 HPC hp5 hk5 HW3 ha hk
  by_cases h0 : b0 = 0
  · subst h0
    have HRR : Hid _ := HR.out
    simp only [if_pos] at HRR
    obtain ⟨n6, hn6⟩ : ∃ n, n = (thT bit nxt 1 b 8 1 s1).2 - 2 ^ 8 := ⟨_, rfl⟩
    obtain ⟨s6, hs6⟩ : ∃ s6, s6 = (thT bit nxt 1 b 8 1 s1).1 := ⟨_, rfl⟩
    have HC : Hid (Calls Try.prog 77 #[.int .i64 1, .int .i64 8, .int .i64 b, .pointer (some ⟨w.heap.size + 1, 0, none⟩)] w5 fun e w' => e = .returned (.int .i64 (n6 : Int)) ∧ ∃ D', PS w' s6 D' ∧ Kpt D5 w5 D' w') := HTR.out (w.heap.size + 1) 1 8 1 8 b s1 D5 w5 n6 s6 hn6 hs6 rfl rfl (Or.inl rfl) ⟨by omega, by omega⟩ ⟨by omega, by omega⟩ HS5.out.1 (by omega) (cell_of_row _ _ _ _ _ _ HT5.out.r1) HT5.out.n1
    rw [← hn6, ← hs6] at HRR
    clear HTR HR hn6 hs6 HZT hz1 hsz
    go_wp2_with fail
    refine HC.out.mono ?_
    rintro e w6 ⟨rfl, D6, hp6, hk6⟩
    have hT6 := HT5.out.next hk6
    have HS6 : Hid (PS w6 s6 D6 ∧ Kpt D w D6 w6 ∧ ¬ D6 (w.heap.size + 1 + 1)) := ⟨hp6, HS5.out.2.trans hk6, hT6.n2⟩
    have HR2 : Hid _ := hT6.r2
    have y0 : w6.cell? ⟨w.heap.size + 1 + 1, 0, none⟩ = some (.int .i64 0) := cell_of_row _ _ _ _ _ _ hT6.r2
    have z0 : w6.frozen? ⟨w.heap.size + 1 + 1, 0, none⟩ = false := frozen_of_row w6 (w.heap.size + 1 + 1) 0 _ _ hT6.r2
    have y1 : w6.cell? ⟨w.heap.size + 1 + 1, 1, none⟩ = some (.int .i64 0) := cell_of_row _ _ _ _ _ _ hT6.r2
    have z1 : w6.frozen? ⟨w.heap.size + 1 + 1, 1, none⟩ = false := frozen_of_row w6 (w.heap.size + 1 + 1) 1 _ _ hT6.r2
    have y2 : w6.cell? ⟨w.heap.size + 1 + 1, 2, none⟩ = some (.int .i64 0) := cell_of_row _ _ _ _ _ _ hT6.r2
    have z2 : w6.frozen? ⟨w.heap.size + 1 + 1, 2, none⟩ = false := frozen_of_row w6 (w.heap.size + 1 + 1) 2 _ _ hT6.r2
    have y3 : w6.cell? ⟨w.heap.size + 1 + 1, 3, none⟩ = some (.int .i64 0) := cell_of_row _ _ _ _ _ _ hT6.r2
    have z3 : w6.frozen? ⟨w.heap.size + 1 + 1, 3, none⟩ = false := frozen_of_row w6 (w.heap.size + 1 + 1) 3 _ _ hT6.r2
    clear HC HT5 HS5 hT6 hp6 hk6 x1 x2 x3
    go_wp2_with fail
    refine bodyPost_ret (results_cell_row rfl _ _ (w.heap.size + 1 + 1) 95 #[.int .i64 0, .int .i64 (n6 : Int), .int .i64 0, .int .i64 0] (0, 0) _ rfl (heap_setCell_same _ _ _ _ _ _ (heap_setCell_same _ _ _ _ _ _ (heap_setCell_same _ _ _ _ _ _ (heap_setCell_same _ _ _ _ _ _ HR2.out)))) Try.underlying95 rfl (by kernel_rfl)) rfl ⟨⟨R.2, rfl, ?_⟩, ?_⟩
    · rw [HRR.out]; first | rfl | simp
    · rw [HRR.out]; exact ⟨D6, HSS.out _ _ _ _ _ _ _ _ _ _ HS6.out.1 HS6.out.2.1 HS6.out.2.2 (by omega)⟩
  · have h0I : ¬ (b0 : Int) = 0 := by omega
    have HRR : Hid _ := HR.out
    simp only [if_neg h0] at HRR
    obtain ⟨d1, hd1e⟩ : ∃ d1, d1 = (d - 1).tdiv 64 := ⟨_, rfl⟩
    obtain ⟨d2, hd2e⟩ : ∃ d2, d2 = (d - 1).tmod 64 := ⟨_, rfl⟩
    have hdb : -5000 ≤ d1 ∧ d1 ≤ 5000 ∧ -5000 ≤ d2 ∧ d2 ≤ 5000 := by
      rw [hd1e, hd2e]
      by_cases hd0 : d = 0
      · subst hd0; decide
      · rw [Int.tdiv_eq_ediv_of_nonneg (by omega), Int.tmod_eq_emod_of_nonneg (by omega)]; omega
    obtain ⟨hq1, hq2, hq3, hq4⟩ := hdb
    have hv1 : (d - 1).tdiv 64 = d1 := hd1e.symm
    have hv2 : (d - 1).tmod 64 = d2 := hd2e.symm
    rw [← hd1e, ← hd2e] at HRR
    clear hd1e hd2e
    obtain ⟨n6, hn6⟩ : ∃ n, n = (thT bit nxt 260 (l - 3) 6 1 s1).2 - 2 ^ 6 := ⟨_, rfl⟩
    obtain ⟨s6, hs6⟩ : ∃ s6, s6 = (thT bit nxt 260 (l - 3) 6 1 s1).1 := ⟨_, rfl⟩
    rw [← hn6, ← hs6] at HRR
    obtain ⟨n7, hn7⟩ : ∃ n, n = (thT bit nxt 330 d1 6 1 s6).2 - 2 ^ 6 := ⟨_, rfl⟩
    obtain ⟨s7, hs7⟩ : ∃ q, q = (thT bit nxt 330 d1 6 1 s6).1 := ⟨_, rfl⟩
    rw [← hn7, ← hs7] at HRR
    obtain ⟨n8, hn8⟩ : ∃ n, n = (thT bit nxt 400 d2 6 1 s7).2 - 2 ^ 6 := ⟨_, rfl⟩
    obtain ⟨s8, hs8⟩ : ∃ q, q = (thT bit nxt 400 d2 6 1 s7).1 := ⟨_, rfl⟩
    rw [← hn8, ← hs8] at HRR
    have hz6 : sz s6 ≤ sz s + 7 := by rw [hs6]; have := HZT.out 260 (l - 3) s1; omega
    have hz7 : sz s7 ≤ sz s + 13 := by rw [hs7]; have := HZT.out 330 d1 s6; omega
    have hm6 : n6 < 64 := by have h := HLT.out 260 (l - 3) s1; rw [show (2 : Nat) ^ 7 = 128 by decide] at h; rw [hn6, show (2 : Nat) ^ 6 = 64 by decide]; omega
    have hm7 : n7 < 64 := by have h := HLT.out 330 d1 s6; rw [show (2 : Nat) ^ 7 = 128 by decide] at h; rw [hn7, show (2 : Nat) ^ 6 = 64 by decide]; omega
    have hm8 : n8 < 64 := by have h := HLT.out 400 d2 s7; rw [show (2 : Nat) ^ 7 = 128 by decide] at h; rw [hn8, show (2 : Nat) ^ 6 = 64 by decide]; omega
    have HC : Hid (Calls Try.prog 77 #[.int .i64 260, .int .i64 6, .int .i64 (l - 3), .pointer (some ⟨w.heap.size + 1, 0, none⟩)] w5 fun e w' => e = .returned (.int .i64 (n6 : Int)) ∧ ∃ D', PS w' s6 D' ∧ Kpt D5 w5 D' w') := HTR.out (w.heap.size + 1) 260 6 260 6 (l - 3) s1 D5 w5 n6 s6 hn6 hs6 rfl rfl (Or.inr rfl) ⟨by omega, by omega⟩ ⟨by omega, by omega⟩ HS5.out.1 (by omega) (cell_of_row _ _ _ _ _ _ HT5.out.r1) HT5.out.n1
    have HC7 : Hid (∀ w6 D6, PS w6 s6 D6 → TB w.heap.size k b d l (.func (.func 60) #[] #[.pointer (some ⟨bx, 0, none⟩)]) D6 w6 → Calls Try.prog 77 #[.int .i64 330, .int .i64 6, .int .i64 d1, .pointer (some ⟨w.heap.size + 1, 0, none⟩)] w6 fun e w' => e = .returned (.int .i64 (n7 : Int)) ∧ ∃ D', PS w' s7 D' ∧ Kpt D6 w6 D' w') := fun w6 D6 hp ht => HTR.out (w.heap.size + 1) 330 6 330 6 d1 s6 D6 w6 n7 s7 hn7 hs7 rfl rfl (Or.inr rfl) ⟨by omega, by omega⟩ ⟨by omega, by omega⟩ hp (by omega) (cell_of_row _ _ _ _ _ _ ht.r1) ht.n1
    have HC8 : Hid (∀ w6 D6, PS w6 s7 D6 → TB w.heap.size k b d l (.func (.func 60) #[] #[.pointer (some ⟨bx, 0, none⟩)]) D6 w6 → Calls Try.prog 77 #[.int .i64 400, .int .i64 6, .int .i64 d2, .pointer (some ⟨w.heap.size + 1, 0, none⟩)] w6 fun e w' => e = .returned (.int .i64 (n8 : Int)) ∧ ∃ D', PS w' s8 D' ∧ Kpt D6 w6 D' w') := fun w6 D6 hp ht => HTR.out (w.heap.size + 1) 400 6 400 6 d2 s7 D6 w6 n8 s8 hn8 hs8 rfl rfl (Or.inr rfl) ⟨by omega, by omega⟩ ⟨by omega, by omega⟩ hp (by omega) (cell_of_row _ _ _ _ _ _ ht.r1) ht.n1
    clear HTR HR hn6 hs6 hn7 hs7 hn8 hs8 HLT HZT hz1 hz6 hz7 hsz
    go_wp2_with fail
    refine HC.out.mono ?_
    rintro e w6 ⟨rfl, D6, hp6, hk6⟩
    have HT6 : Hid (TB w.heap.size k b d l (.func (.func 60) #[] #[.pointer (some ⟨bx, 0, none⟩)]) D6 w6) := HT5.out.next hk6
    have HS6 : Hid (PS w6 s6 D6 ∧ Kpt D w D6 w6) := ⟨hp6, HS5.out.2.trans hk6⟩
    clear HC HT5 HS5 hp6 hk6 x1 x2 x3
    have x2 : w6.cell? ⟨w.heap.size, 2, none⟩ = some (.int .i64 d) := cell_of_row _ _ _ _ _ _ HT6.out.r0
    have HC := HC7.out w6 D6 HS6.out.1 HT6.out
    have HC : Hid (Calls Try.prog 77 #[.int .i64 330, .int .i64 6, .int .i64 d1, .pointer (some ⟨w.heap.size + 1, 0, none⟩)] w6 fun e w' => e = .returned (.int .i64 (n7 : Int)) ∧ ∃ D', PS w' s7 D' ∧ Kpt D6 w6 D' w') := HC
    go_wp2_with fail
    refine HC.out.mono ?_
    rintro e w7 ⟨rfl, D7, hp7, hk7⟩
    have HT7 : Hid (TB w.heap.size k b d l (.func (.func 60) #[] #[.pointer (some ⟨bx, 0, none⟩)]) D7 w7) := HT6.out.next hk7
    have HS7 : Hid (PS w7 s7 D7 ∧ Kpt D w D7 w7) := ⟨hp7, HS6.out.2.trans hk7⟩
    clear HC HT6 HS6 hp7 hk7 x2 HC7
    have x2 : w7.cell? ⟨w.heap.size, 2, none⟩ = some (.int .i64 d) := cell_of_row _ _ _ _ _ _ HT7.out.r0
    have HC : Hid (Calls Try.prog 77 #[.int .i64 400, .int .i64 6, .int .i64 d2, .pointer (some ⟨w.heap.size + 1, 0, none⟩)] w7 fun e w' => e = .returned (.int .i64 (n8 : Int)) ∧ ∃ D', PS w' s8 D' ∧ Kpt D7 w7 D' w') := HC8.out w7 D7 HS7.out.1 HT7.out
    go_wp2_with fail
    refine HC.out.mono ?_
    rintro e w8 ⟨rfl, D8, hp8, hk8⟩
    have hT8 := HT7.out.next hk8
    have HS8 : Hid (PS w8 s8 D8 ∧ Kpt D w D8 w8) := ⟨hp8, HS7.out.2.trans hk8⟩
    have HR2 : Hid (TB w.heap.size k b d l (.func (.func 60) #[] #[.pointer (some ⟨bx, 0, none⟩)]) D8 w8) := hT8
    have y0 : w8.cell? ⟨w.heap.size + 1 + 1, 0, none⟩ = some (.int .i64 0) := cell_of_row _ _ _ _ _ _ hT8.r2
    have z0 : w8.frozen? ⟨w.heap.size + 1 + 1, 0, none⟩ = false := frozen_of_row w8 (w.heap.size + 1 + 1) 0 _ _ hT8.r2
    have y1 : w8.cell? ⟨w.heap.size + 1 + 1, 1, none⟩ = some (.int .i64 0) := cell_of_row _ _ _ _ _ _ hT8.r2
    have z1 : w8.frozen? ⟨w.heap.size + 1 + 1, 1, none⟩ = false := frozen_of_row w8 (w.heap.size + 1 + 1) 1 _ _ hT8.r2
    have y2 : w8.cell? ⟨w.heap.size + 1 + 1, 2, none⟩ = some (.int .i64 0) := cell_of_row _ _ _ _ _ _ hT8.r2
    have z2 : w8.frozen? ⟨w.heap.size + 1 + 1, 2, none⟩ = false := frozen_of_row w8 (w.heap.size + 1 + 1) 2 _ _ hT8.r2
    have y3 : w8.cell? ⟨w.heap.size + 1 + 1, 3, none⟩ = some (.int .i64 0) := cell_of_row _ _ _ _ _ _ hT8.r2
    have z3 : w8.frozen? ⟨w.heap.size + 1 + 1, 3, none⟩ = false := frozen_of_row w8 (w.heap.size + 1 + 1) 3 _ _ hT8.r2
    clear HC HT7 HS7 hT8 hp8 hk8 x2 HC8
    obtain ⟨m, hm⟩ : ∃ m, m = n7 * 64 + n8 + 1 := ⟨_, rfl⟩
    obtain ⟨u, hu⟩ : ∃ u, u = n6 + 3 := ⟨_, rfl⟩
    have hu1 : (n7 : Int) * 64 + (n8 : Int) + 1 = (m : Int) := by omega
    have hu2 : (n6 : Int) + 3 = (u : Int) := by omega
    have hw1 : IntKind.i64.wrap (m : Int) = (m : Int) := by rw [IntKind.wrap_i64]; omega
    have hw2 : IntKind.i64.wrap (u : Int) = (u : Int) := by rw [IntKind.wrap_i64]; omega
    rw [← hm, ← hu] at HRR
    clear hm hu
    go_wp2_with fail
    refine bodyPost_ret (results_cell_row rfl _ _ (w.heap.size + 1 + 1) 95 #[.int .i64 1, .int .i64 0, .int .i64 (m : Int), .int .i64 (u : Int)] (0, 0) _ rfl (heap_setCell_same _ _ _ _ _ _ (heap_setCell_same _ _ _ _ _ _ (heap_setCell_same _ _ _ _ _ _ (heap_setCell_same _ _ _ _ _ _ HR2.out.r2)))) Try.underlying95 rfl (by kernel_rfl)) rfl ⟨⟨R.2, rfl, ?_⟩, ?_⟩
    · rw [HRR.out]; first | rfl | simp
    · rw [HRR.out]; exact ⟨D8, HSS.out _ _ _ _ _ _ _ _ _ _ HS8.out.1 HS8.out.2 HR2.out.n2 (by omega)⟩
end Go.Proofs.Ytibciflmalfbjaa

/-!   The tokens of a text are such as may stand; its choices. -/
namespace Go.Proofs.Ytibciflmalfbjaa
open Go.RowKit
set_option linter.unusedVariables false
def tkG (s : ByteArray) (i : Nat) : TkN := (tkL s).getD i ⟨0, 0, 0, 0⟩
theorem tkG_ok {s : ByteArray} (hs : s.size ≤ 4000) (i : Nat) (h : i < (tkL s).length) : TkOk (tkG s i) := by
  obtain ⟨q1, q2, _⟩ := (tkL_shape s).1 i h
  have e : tkG s i = tokAt s (atS s i) := by unfold tkG; rw [List.getD_eq_getElem?_getD, q2]; rfl
  obtain ⟨⟨_, h1⟩, _⟩ := tok_ok hs q1
  rw [← e] at h1
  generalize tkG s i = t at h1
  obtain ⟨k, b, d, l⟩ := t
  simp only [tkI] at h1
  unfold TkOk
  rcases h1 with ⟨h1, h2, h3, _⟩ | ⟨h1, h2, h3, h4, _, h5, h6⟩
  · exact Or.inl ⟨by show k = 0; omega, by show b < 256; omega⟩
  · exact Or.inr ⟨by show k = 1; omega, by show 1 ≤ d; omega, by show d ≤ 4096; omega, by show 3 ≤ l; omega, by show l ≤ 66; omega⟩
theorem tkF_G (s : ByteArray) (i : Nat) : tkF s i = tkI (tkG s i) := rfl
/-- the choices of a text -/
def choS (s : ByteArray) : List (Nat × Nat) := (choUp (tkG s) (tkL s).length).1
theorem choUp_len (F : Nat → TkN) : ∀ i, (choUp F i).1.length ≤ 19 * i
  | 0 => Nat.zero_le _
  | i + 1 => by
    show ((choUp F i).1 ++ tokCh (choUp F i).2 (F i)).length ≤ _
    rw [List.length_append, tokCh_len]
    have := choUp_len F i
    split <;> omega
/-- nine of a byte, nineteen of a copy, which makes three bytes or more -/
theorem choUp_few {s : ByteArray} : ∀ i, i ≤ (tkL s).length → (choUp (tkG s) i).1.length ≤ 9 * atS s i
  | 0, _ => Nat.zero_le _
  | i + 1, hi => by
    have ih := choUp_few (s := s) i (by omega)
    obtain ⟨q1, q2, q3⟩ := (tkL_shape s).1 i (by omega)
    have e : tkG s i = tokAt s (atS s i) := by unfold tkG; rw [List.getD_eq_getElem?_getD, q2]; rfl
    show ((choUp (tkG s) i).1 ++ tokCh (choUp (tkG s) i).2 (tkG s i)).length ≤ _
    rw [List.length_append, tokCh_len, q3, e]
    unfold tokAt stepAt
    split
    · rename_i h
      rw [if_neg (show ¬ (1 : Nat) = 0 by decide)]; omega
    · rename_i h
      rw [if_pos rfl]; omega
theorem choS_len {s : ByteArray} (hs : s.size ≤ 4000) : (choS s).length ≤ 36000 := by
  have h := choUp_few (s := s) (tkL s).length (Nat.le_refl _)
  rw [(tkL_shape s).2.1] at h
  unfold choS; omega
theorem choS_ok {s : ByteArray} (hs : s.size ≤ 4000) : ∀ c ∈ choS s, c.1 < 512 ∧ (c.2 = 0 ∨ c.2 = 1) := choUp_ok (tkG s) (tkL s).length (fun i h => tkG_ok hs i h) _ (Nat.le_refl _)
end Go.Proofs.Ytibciflmalfbjaa

/-!   The choices of a text: the code's. -/
namespace Go.Proofs.Ytibciflmalfbjaa
open Go.RowKit
set_option linter.unusedVariables false
set_option linter.unusedSimpArgs false
def cIntI : Value → Int | .int _ q => q | _ => 0
def bitN (_ : List (Nat × Nat)) (_ t : Nat) : Nat := t
def nxtN (L : List (Nat × Nat)) (c t : Nat) : List (Nat × Nat) := L ++ [(c, t)]
theorem tvT_nat (n k : Nat) : tvT (n : Int) k = n / 2 ^ k % 2 := by
  unfold tvT
  have e : (n : Int) / (2 : Int) ^ k % 2 = ((n / 2 ^ k % 2 : Nat) : Int) := by
    rw [Int.natCast_emod, Int.natCast_ediv, Int.natCast_pow]; rfl
  rw [e]; rfl
theorem thT_L (f n : Nat) : ∀ (k nd : Nat) (L : List (Nat × Nat)), thT bitN nxtN f (n : Int) k nd L = (L ++ treeL f n k nd, treeN n k nd)
  | 0, nd, L => by simp [thT, treeL, treeN]
  | k + 1, nd, L => by
    show thT bitN nxtN f (n : Int) k (2 * nd + bitN L (f + nd) (tvT n k)) (nxtN L (f + nd) (tvT n k)) = _
    rw [tvT_nat, thT_L f n k]
    simp [bitN, nxtN, treeL, treeN]
/-- the choices of a token, and its kind -/
theorem thTok_L (a : Nat) (t : TkN) (h : TkOk t) (L : List (Nat × Nat)) : (thTok bitN nxtN a t.k (t.b : Int) (t.d : Int) (t.l : Int) L).1 = L ++ tokCh a t ∧ (thTok bitN nxtN a t.k (t.b : Int) (t.d : Int) (t.l : Int) L).2.k = t.k := by
  unfold thTok tokCh
  obtain ⟨k, b, d, l⟩ := t
  rcases h with ⟨h1, h2⟩ | ⟨h1, h2, h3, h4, h5⟩
  · simp only at h1
    subst h1
    rw [if_pos (show bitN L a 0 = 0 from rfl), if_pos rfl]
    simp only [thT_L]
    exact ⟨by simp [nxtN], by first | rfl | trivial⟩
  · simp only at h1 h2 h3 h4 h5
    subst h1
    rw [if_neg (show ¬ bitN L a 1 = 0 by show ¬ (1 : Nat) = 0; decide), if_neg (show ¬ (1 : Nat) = 0 by decide)]
    have e1 : (l : Int) - 3 = ((l - 3 : Nat) : Int) := by omega
    have e2 : ((d : Int) - 1).tdiv 64 = (((d - 1) / 64 : Nat) : Int) := by rw [Int.tdiv_eq_ediv_of_nonneg (by omega)]; omega
    have e3 : ((d : Int) - 1).tmod 64 = (((d - 1) % 64 : Nat) : Int) := by rw [Int.tmod_eq_emod_of_nonneg (by omega)]; omega
    simp only [e1, e2, e3, thT_L]
    exact ⟨by simp [nxtN], by first | rfl | trivial⟩
/-- the closure that notes, as the walk through a token asks -/
def PSn (B bx : Nat) (w : World) (L : List (Nat × Nat)) (D : Nat → Prop) : Prop := NS B bx w L D ∧ B ≤ w.heap.size
theorem PSn.stay {B bx : Nat} {w w' : World} {L : List (Nat × Nat)} {D : Nat → Prop} (h : PSn B bx w L D) (hb : w.heap.size ≤ w'.heap.size) (hk : ∀ k, D k → w'.heap[k]? = w.heap[k]?) : PSn B bx w' L D := ⟨h.1.stay hk, Nat.le_trans h.2 hb⟩
theorem nthru (B bx : Nat) (a : Nat) (t : TkN) (ht : TkOk t) (hbd : t.b ≤ 5000 ∧ t.d ≤ 5000 ∧ t.l ≤ 5000) (ha : a < 2) (L M : List (Nat × Nat)) (hM : M = L ++ tokCh a t) (hL : L.length ≤ 90000) (D : Nat → Prop) (w : World) (h : NS B bx w L D) (hBw : B ≤ w.heap.size) :
    Calls Try.prog 53 #[.agg #[.int .i64 (t.k : Int), .int .i64 (t.b : Int), .int .i64 (t.d : Int), .int .i64 (t.l : Int)], .int .i64 (a : Int), .func (.func 60) #[] #[.pointer (some ⟨bx, 0, none⟩)]] w fun e w' => (∃ b d l : Int, e = .returned (.agg #[.int .i64 (t.k : Int), .int .i64 b, .int .i64 d, .int .i64 l])) ∧ ∃ D', NS B bx w' M D' ∧ Kpt D w D' w' := by
  have hk : t.k < 2 := by rcases ht with h | h <;> omega
  obtain ⟨h1, h2, h3⟩ := hbd
  have hbx : B ≤ bx := by obtain ⟨_, _, _, h4, _⟩ := h; exact h4
  obtain ⟨e1, e2⟩ := thTok_L a t ht L
  refine (nthrough_any (NS B bx) bitN nxtN List.length 100000 bx (fun w s D c t hps hl hc h2 => note_any B bx w s D c t hps hl (by have := (Array.getElem?_eq_some_iff.1 hps.choose_spec.1).1; omega)) (fun s c t h => h) (fun w w' s D h hk => h.stay hk) (fun w s D h k hk => (h.lt k hk).2) (fun s c t => by simp [nxtN]) a t.k _ _ (t.b : Int) (t.d : Int) (t.l : Int) L D w ha hk rfl rfl (by omega) (by omega) (by omega) h (by omega)).mono ?_
  rintro e w' ⟨⟨q, hq, rfl⟩, D', h5, h6⟩
  rw [e1, ← hM] at h5
  have hqk : q.k = t.k := by rw [hq, e2]
  exact ⟨⟨_, _, _, by rw [hqk]⟩, D', h5, h6⟩
theorem tkG_bd {s : ByteArray} (hs : s.size ≤ 4000) (i : Nat) (h : i < (tkL s).length) : (tkG s i).b ≤ 5000 ∧ (tkG s i).d ≤ 5000 ∧ (tkG s i).l ≤ 5000 := by
  obtain ⟨q1, q2, _⟩ := (tkL_shape s).1 i h
  have e : tkG s i = tokAt s (atS s i) := by unfold tkG; rw [List.getD_eq_getElem?_getD, q2]; rfl
  obtain ⟨⟨_, h1⟩, _⟩ := tok_ok hs q1
  rw [← e] at h1
  generalize tkG s i = t at h1
  obtain ⟨k, b, d, l⟩ := t
  simp only [tkI] at h1
  show b ≤ 5000 ∧ d ≤ 5000 ∧ l ≤ 5000
  rcases h1 with ⟨h1, h2, h3, h4⟩ | ⟨h1, h2, h3, h4, _, h5, h6⟩ <;> omega
set_option maxRecDepth 100000 in
set_option maxHeartbeats 600000 in
theorem choices_any (s : ByteArray) (w : World) (hs : s.size ≤ 4000) :
    Calls Try.prog 31 #[.string s] w fun e w' => (∃ v, e = .returned (.tuple #[v, .bool true]) ∧ w'.ownsRow w.heap.size 106 2 v (choS s).length (cC (choS s))) ∧ Below w.heap.size w w' := by
  have HT : Hid (∀ w, Calls Try.prog 59 #[.string s] w fun e w' => (∃ v, e = .returned (.tuple #[v, .bool true]) ∧ w'.ownsRow w.heap.size 95 4 v (tkL s).length (tkC (tkL s))) ∧ Below w.heap.size w w') := fun w => tokens_any s w hs
  have HOK : Hid (∀ i, i < (tkL s).length → TkOk (tkG s i) ∧ ((tkG s i).b ≤ 5000 ∧ (tkG s i).d ≤ 5000 ∧ (tkG s i).l ≤ 5000)) := fun i h => ⟨tkG_ok hs i h, tkG_bd hs i h⟩
  have HKD : Hid (∀ i, i ≤ (tkL s).length → (choUp (tkG s) i).2 ≤ 1) := choUp_kind (tkG s) _ (fun i h => tkG_ok hs i h)
  have HLN : Hid ((tkL s).length ≤ 4000) := by have := (tkL_shape s).2.2; show _ ≤ _; omega
  have HUS : Hid (∀ i, (choUp (tkG s) (i + 1)) = ((choUp (tkG s) i).1 ++ tokCh (choUp (tkG s) i).2 (tkG s i), (tkG s i).k)) := fun i => rfl
  have HUL : Hid (∀ i, (choUp (tkG s) i).1.length ≤ 19 * i) := fun i => choUp_len _ i
  have HU0 : Hid (choUp (tkG s) 0 = ([], 0)) := rfl
  have HFG : Hid (∀ i, tkF s i = tkI (tkG s i)) := fun i => tkF_G s i
  have HAR : Hid (∀ w B v, w.ownsRow B 95 4 v (tkL s).length (tkC (tkL s)) → TkArg w v (tkL s).length (tkF s)) := fun w B v h => own_arg h
  unfold choS
  generalize (tkL s).length = N at *
  generalize tkC (tkL s) = xs at *
  generalize tkF s = FI at *
  generalize hU : choUp (tkG s) = U at *
  clear hU
  generalize tkG s = G at *
  go_enter Try.func31, Try.ntmps31
  go_wp2_with fail
  refine (HT.out _).mono ?_
  rintro e w1 ⟨⟨tv, rfl, ho⟩, hb1⟩
  have HTA : Hid (TkArg w1 tv N FI) := HAR.out _ _ _ ho
  have HB1 : Hid (Below w.heap.size w w1) := hb1
  obtain ⟨ta, tc, rfl, _⟩ := HTA.out
  have HS0 : Hid (∃ D, NS w1.heap.size w1.heap.size (w1.alloc (.cells #[.slice none 0 0] 58)) [] D) :=
    ⟨_, .slice none 0 0, heap_alloc_new _ _, World.ownsRow_nil _ _ _ _, Nat.le_refl _, rfl⟩
  have HBL0 : Hid (Below w1.heap.size w1 (w1.alloc (.cells #[.slice none 0 0] 58)) ∧ w1.heap.size ≤ (w1.alloc (.cells #[.slice none 0 0] 58)).heap.size) := ⟨(Below.refl _ _).alloc (Nat.le_refl _) _, by simp⟩
  clear ho hb1 HT HAR
  go_wp2_with fail
  go_loopw [8, 21] (fun la ix wr => ∃ (i : Nat) (D : Nat → Prop), la = .int .i64 ((U i).2 : Int) ∧ ix = .int .i64 (i : Int) ∧ i ≤ N ∧ Hid (NS w1.heap.size w1.heap.size wr (U i).1 D) ∧ Hid (Below w1.heap.size w1 wr ∧ w1.heap.size ≤ wr.heap.size)) (fun _ ix _ => N - (cIntI ix).toNat)
  case atStart =>
    obtain ⟨D, hD⟩ := HS0.out
    exact ⟨0, D, by rw [HU0.out]; rfl, rfl, Nat.zero_le _, by rw [HU0.out]; exact hD, HBL0.out⟩
  case round =>
    clear HS0 HBL0
    obtain ⟨i, D, rfl, rfl, hi, HN, HB⟩ := hrel
    have hN4 := HLN.out
    by_cases hlt : i < N
    · have hltI : (i : Int) < (N : Int) := by omega
      obtain ⟨a', c', e1, hr⟩ := HTA.out.below HB.out.1
      cases e1
      obtain ⟨g, rfl, hrow⟩ := hr (by omega)
      obtain ⟨q, hq⟩ : ∃ q, q = 4 * i := ⟨_, rfl⟩
      have hiq : i * 4 = q := by omega
      have x0 := hrow.c0 i hlt
      have x1 := hrow.c1 i hlt
      have x2 := hrow.c2 i hlt
      have x3 := hrow.c3 i hlt
      rw [← hq, HFG.out i] at x0 x1 x2 x3
      have HOKI : Hid _ := HOK.out i hlt
      have hul := HUL.out i
      have HUNX : Hid _ := HUS.out i
      have hkd := HKD.out i hi
      clear hrow hq hr
      generalize G i = t at x0 x1 x2 x3 HOKI HUNX
      obtain ⟨tk, tb, td, tl⟩ := t
      simp only [tkI] at x0 x1 x2 x3
      obtain ⟨la, hla⟩ : ∃ la, la = (U i).2 := ⟨_, rfl⟩
      obtain ⟨M, hM⟩ : ∃ M, M = (U i).1 := ⟨_, rfl⟩
      rw [← hla, ← hM] at HUNX
      rw [← hla]
      rw [← hla] at hkd
      rw [← hM] at HN hul
      clear hla hM
      go_wp2_with fail
      obtain ⟨w2, hw2⟩ : ∃ w2, w2 = wr.alloc (.cells #[.int .i64 (tk : Int), .int .i64 (tb : Int), .int .i64 (td : Int), .int .i64 (tl : Int)] 95) := ⟨_, rfl⟩
      rw [← hw2]
      have HN2 : Hid (NS w1.heap.size w1.heap.size w2 M D) := HN.out.stay (fun k hk => by rw [hw2]; exact Below.heap_alloc _ _ _ (HN.out.lt k hk).2)
      have HB2 : Hid (Below w1.heap.size w1 w2 ∧ w1.heap.size ≤ w2.heap.size) := by
        show _ ∧ _
        rw [hw2]
        exact ⟨HB.out.1.alloc HB.out.2 _, by have := HB.out.2; simp; omega⟩
      have hz : w1.heap.size ≤ w2.heap.size := HB2.out.2
      clear hw2 HN HB x0 x1 x2 x3
      have hun := HUNX.out
      refine (nthru w1.heap.size w1.heap.size la ⟨tk, tb, td, tl⟩ HOKI.out.1 HOKI.out.2 (by omega) M (U (i + 1)).1 (by rw [hun]) (by omega) D w2 HN2.out hz).mono ?_
      rintro e w3 ⟨⟨b', d', l', rfl⟩, D3, hn3, hk3⟩
      have HN3 : Hid (NS w1.heap.size w1.heap.size w3 (U (i + 1)).1 D3) := hn3
      have HB3 : Hid (Below w1.heap.size w1 w3 ∧ w1.heap.size ≤ w3.heap.size) :=
        ⟨bl_trans3 HB2.out.1 (hk3.toBelow hz (fun k hk => (HN2.out.lt k hk).1)) (Nat.le_refl _), Nat.le_trans hz hk3.size⟩
      have HU2 : Hid ((U (i + 1)).2 = tk) := by show _ = _; rw [hun]
      clear hn3 hk3 hun HUNX HN2 HB2 hz
      go_wp2_with fail
      rw [show (Sem.run Try.prog (Instr.field 95 (Value.agg #[.int .i64 (tk : Int), .int .i64 b', .int .i64 d', .int .i64 l']) 0) w3) = .ok (.int .i64 (tk : Int)) w3 from by kernel_rfl]
      go_wp2_with fail
      go_roundw
      case rel => exact ⟨i + 1, D3, by rw [HU2.out], by go_num, by omega, HN3, HB3⟩
      case measure => simp [cIntI]; omega
    · obtain rfl : i = N := by omega
      obtain ⟨v, h1, h2, h3, h4⟩ := HN.out
      have y0 : wr.cell? ⟨w1.heap.size, 0, none⟩ = some v := cell_of_row _ _ _ _ _ _ h1
      have HF : Hid (wr.ownsRow w.heap.size 106 2 v (U i).1.length (cC (U i).1) ∧ Below w.heap.size w wr) :=
        ⟨owns_lower h2 HB1.out.size, bl_trans3 HB1.out HB.out.1 HB1.out.size⟩
      clear h1 h2 h3 h4 HN HB HB1
      go_wp2_with fail
      go_ret2
      exact ⟨⟨v, rfl, HF.out.1⟩, HF.out.2⟩
set_option maxRecDepth 100000 in
theorem choices_no (s : ByteArray) (w : World) (hs : ¬ s.size ≤ 4000) :
    Calls Try.prog 31 #[.string s] w fun e w' => e = .returned (.tuple #[.slice none 0 0, .bool false]) ∧ w' = w := by
  have H : Hid (∀ w, _) := fun w => tokens_no s w hs
  clear hs
  go_enter Try.func31, Try.ntmps31
  go_wp2_with fail
  refine (H.out _).mono ?_
  rintro e w1 ⟨rfl, rfl⟩
  go_wp2_with fail
  go_ret2
  exact ⟨rfl, rfl⟩
end Go.Proofs.Ytibciflmalfbjaa

/-!   The choices of a text: the specification's. -/
namespace Go.Proofs.Ytibciflmalfbjaa
open Go.RowKit
set_option linter.unusedVariables false
set_option linter.unusedSimpArgs false
def cIntOf : Value → Int | .int _ q => q | _ => 0
theorem Try.infChc : (Try.prog.info? 106).map (fun i => (i.zero, i.size, i.bytes)) = some (some (.agg #[.int .i64 0, .int .i64 0]), 2, 16) := by kernel_rfl
set_option maxRecDepth 100000 in
set_option maxHeartbeats 2000000 in
theorem stree_any (B gv cap : Nat) (L : List (Nat × Nat)) (f nb n : Nat) (w : World) (hf : f ≤ 1000) (hb : nb ≤ 8) (hn : n < 1000000) (hL : L.length ≤ 100000) (ho : w.ownsRow B 106 2 (.slice (some ⟨gv, 0, none⟩) L.length cap) L.length (cC L)) (hBw : B ≤ w.heap.size) :
    Calls Try.prog 70 #[.slice (some ⟨gv, 0, none⟩) L.length cap, .int .i64 (f : Int), .int .i64 (nb : Int), .int .i64 (n : Int)] w fun e w' => (∃ g' c', e = .returned (.slice (some ⟨g', 0, none⟩) (L ++ treeL f n nb 1).length c') ∧ w'.ownsRow B 106 2 (.slice (some ⟨g', 0, none⟩) (L ++ treeL f n nb 1).length c') (L ++ treeL f n nb 1).length (cC (L ++ treeL f n nb 1)) ∧ (g' = gv ∨ w.heap.size ≤ g')) ∧ w.grownBy w' (some gv) := by
  obtain ⟨i0, hi0, hz0, hz1, hz2⟩ := info_parts Try.infChc
  have HO0 : Hid (w.ownsRow B 106 2 (.slice (some ⟨gv, 0, none⟩) L.length cap) L.length (cC L)) := ho
  obtain ⟨A, hA⟩ : ∃ A, A = L ++ treeL f n nb 1 := ⟨_, rfl⟩
  have HA : Hid (A = L ++ treeL f n nb 1) := hA
  rw [← hA]
  clear ho hA
  go_enter Try.func70, Try.ntmps70
  go_wp2_with fail
  go_loopw [0, 9, 10] (fun x nd i wr => ∃ (gu cu k d : Nat) (M : List (Nat × Nat)), x = .slice (some ⟨gu, 0, none⟩) M.length cu ∧ nd = .int .i64 (d : Int) ∧ i = .int .i64 ((k : Int) - 1) ∧ k ≤ nb ∧ d < 2 ^ (nb - k + 1) ∧ Hid (A = M ++ treeL f n k d) ∧ M.length + k ≤ 100008 ∧ Hid (wr.ownsRow B 106 2 (.slice (some ⟨gu, 0, none⟩) M.length cu) M.length (cC M)) ∧ Hid (w.grownBy wr (some gv) ∧ (gu = gv ∨ w.heap.size ≤ gu))) (fun _ _ i _ => (cIntOf i + 1).toNat)
  case atStart => exact ⟨gv, cap, nb, 1, L, rfl, rfl, rfl, Nat.le_refl _, by rw [Nat.sub_self]; decide, HA, by omega, HO0, World.grownBy.refl _ _, Or.inl rfl⟩
  case round =>
    obtain ⟨gu, cu, k, d, M, rfl, rfl, rfl, hk, hd, HM, hML, HO, HB⟩ := hrel
    have hd9 : d < 512 := Nat.lt_of_lt_of_le hd (Nat.pow_le_pow_right (by omega) (by omega : nb - k + 1 ≤ 9))
    by_cases hk0 : k = 0
    · subst hk0
      have HF : Hid (M.length = A.length ∧ wr.ownsRow B 106 2 (.slice (some ⟨gu, 0, none⟩) A.length cu) A.length (cC A)) := by
        have e := HM.out
        rw [show treeL f n 0 d = [] from rfl, List.append_nil] at e
        rw [e]; exact ⟨rfl, HO.out⟩
      clear hd HO
      go_wp2_with fail
      go_ret
      exact ⟨⟨gu, cu, by rw [← HF.out.1]; rfl, HF.out.2, HB.out.2⟩, HB.out.1⟩
    · obtain ⟨j, rfl⟩ : ∃ j, k = j + 1 := ⟨k - 1, by omega⟩
      have e1 : ((j + 1 : Nat) : Int) - 1 = (j : Int) := by omega
      rw [e1]
      obtain ⟨t, ht⟩ : ∃ t, t = n / 2 ^ j % 2 := ⟨_, rfl⟩
      obtain ⟨q, hq⟩ : ∃ q, q = n / 2 ^ j := ⟨_, rfl⟩
      have ht2 : t < 2 := by omega
      have hshr : (n : Int) / (2 : Int) ^ j = (q : Int) := by rw [hq]; simp
      have hrem : Int.tmod (q : Int) 2 = (t : Int) := by rw [Int.tmod_eq_emod_of_nonneg (by omega), ht, hq]; omega
      have hju : IntKind.u32.wrap (j : Int) = (j : Int) := by rw [IntKind.wrap_u32]; omega
      have HM2 : Hid (A = (M ++ [(f + d, t)]) ++ treeL f n j (2 * d + t)) := by
        show A = _
        rw [HM.out, treeL, ← ht]; simp
      have hd2 : 2 * d + t < 2 ^ (nb - j + 1) := by
        have e : nb - j + 1 = (nb - (j + 1) + 1) + 1 := by omega
        rw [e, Nat.pow_succ]; omega
      have hw1 : IntKind.i64.wrap ((f : Int) + (d : Int)) = ((f + d : Nat) : Int) := by rw [IntKind.wrap_i64]; omega
      have hw1b : (f : Int) + (d : Int) = ((f + d : Nat) : Int) := by omega
      have hw2 : IntKind.i64.wrap (2 * (d : Int)) = 2 * (d : Int) := by rw [IntKind.wrap_i64]; omega
      obtain ⟨nd2, hnd2⟩ : ∃ nd2, nd2 = 2 * d + t := ⟨_, rfl⟩
      have hw3b : 2 * (d : Int) + (t : Int) = (nd2 : Int) := by omega
      have hw3 : IntKind.i64.wrap (nd2 : Int) = (nd2 : Int) := by rw [IntKind.wrap_i64]; omega
      rw [← hnd2] at HM2 hd2
      have HSN : Hid (cC (M ++ [(f + d, t)]) = cC M ++ [.int .i64 ((f + d : Nat) : Int), .int .i64 (t : Int)]) := cC_snoc _ _ _
      have hsz := HB.out.1.size
      clear hd ht hq HM e1 hnd2
      generalize f + d = z at *
      go_wp2_with (at_builtin; refine wpList_append_fr _ rfl _ _ 58 rfl B 106 i0 (.agg #[.int .i64 0, .int .i64 0]) 2 16 Try.underlying58 hi0 hz0 hz1 hz2 rfl (by decide) gu cu M.length _ rfl (HO.out.alloc _) ⟨wr.heap.size, 0, none⟩ 1 1 [_, _] rfl rfl cell_two ?c2 ?c3 ?c4 ?c5 ?_)
      case c2 => intro u hu; simp at hu; rcases hu with rfl | rfl <;> rfl
      case c3 => unfold maxLen; omega
      case c4 => omega
      case c5 => simp; omega
      intro g3 c3 w3 hown' hgrow hg3
      have H3 : Hid (w3.ownsRow B 106 2 (.slice (some ⟨g3, 0, none⟩) (M ++ [(z, t)]).length c3) (M ++ [(z, t)]).length (cC (M ++ [(z, t)])) ∧ w.grownBy w3 (some gv) ∧ (g3 = gv ∨ w.heap.size ≤ g3)) := by
        refine ⟨by rw [HSN.out, List.length_append]; exact hown', ?_, ?_⟩
        · exact (HB.out.1.trans (World.grownBy_alloc wr _ _)).andThen hgrow (fun j hj => by
            have e := Option.some.inj hj
            subst e
            rcases HB.out.2 with h | h
            · exact Or.inr (by rw [h])
            · exact Or.inl h)
        · rcases hg3 with h | h
          · rw [h]; exact HB.out.2
          · exact Or.inr (by have h' : wr.heap.size + 1 ≤ g3 := by simpa using h
                             omega)
      have HL3 : Hid ((M ++ [(z, t)]).length = M.length + 1) := by show _ = _; simp
      clear hown' hgrow hg3 HO HB
      go_wp2_with fail
      go_roundw
      case rel => exact ⟨g3, c3, j, nd2, M ++ [(z, t)], by rw [HL3.out], by go_num, rfl, by omega, hd2, HM2, by rw [HL3.out]; omega, H3.out.1, H3.out.2⟩
      case measure => simp [cIntOf] <;> omega
end Go.Proofs.Ytibciflmalfbjaa

/-!   The choices of a text: the specification's. -/
namespace Go.Proofs.Ytibciflmalfbjaa
open Go.RowKit
set_option linter.unusedVariables false
set_option linter.unusedSimpArgs false
theorem bl3c {B C : Nat} {a b c : World} (h : Below B a b) (k : Below C b c) (hBC : B ≤ C) : Below B a c := ⟨k.os.trans h.os, k.tape.trans h.tape, k.output.trans h.output, Nat.le_trans h.size k.size, fun i hi => (k.block i (Nat.lt_of_lt_of_le hi hBC)).trans (h.block i hi)⟩
set_option maxRecDepth 100000 in
set_option maxHeartbeats 600000 in
theorem schoices_any (s : ByteArray) (w : World) (hs : s.size ≤ 4000) :
    Calls Try.prog 47 #[.string s] w fun e w' => (∃ v, e = .returned (.tuple #[v, .bool true]) ∧ w'.ownsRow w.heap.size 106 2 v (choS s).length (cC (choS s))) ∧ Below w.heap.size w w' := by
  obtain ⟨i0, hi0, hz0, hz1, hz2⟩ := info_parts Try.infChc
  have HT : Hid (∀ w, Calls Try.prog 69 #[.string s] w fun e w' => (∃ v, e = .returned (.tuple #[v, .bool true]) ∧ w'.ownsRow w.heap.size 95 4 v (tkL s).length (tkC (tkL s))) ∧ Below w.heap.size w w') := fun w => stokens_any s w hs
  have HTR : Hid (∀ (B gv cap : Nat) (L : List (Nat × Nat)) (f nb n : Nat) (fI nbI : Int) (A : List (Nat × Nat)) (w : World), fI = (f : Int) → nbI = (nb : Int) → A = L ++ treeL f n nb 1 → f ≤ 1000 → nb ≤ 8 → n < 1000000 → L.length ≤ 100000 → w.ownsRow B 106 2 (.slice (some ⟨gv, 0, none⟩) L.length cap) L.length (cC L) → B ≤ w.heap.size → Calls Try.prog 70 #[.slice (some ⟨gv, 0, none⟩) L.length cap, .int .i64 fI, .int .i64 nbI, .int .i64 (n : Int)] w fun e w' => (∃ g' c', e = .returned (.slice (some ⟨g', 0, none⟩) A.length c') ∧ w'.ownsRow B 106 2 (.slice (some ⟨g', 0, none⟩) A.length c') A.length (cC A) ∧ (g' = gv ∨ w.heap.size ≤ g')) ∧ w.grownBy w' (some gv)) :=
    fun B gv cap L f nb n fI nbI A w e1 e2 e3 h1 h2 h3 h4 h5 h6 => by subst e1; subst e2; subst e3; exact stree_any B gv cap L f nb n w h1 h2 h3 h4 h5 h6
  have HOK : Hid (∀ i, i < (tkL s).length → TkOk (tkG s i)) := fun i h => tkG_ok hs i h
  have HLN : Hid ((tkL s).length ≤ 4000) := by have := (tkL_shape s).2.2; show _ ≤ _; omega
  have HUS : Hid (∀ i, (choUp (tkG s) (i + 1)) = ((choUp (tkG s) i).1 ++ tokCh (choUp (tkG s) i).2 (tkG s i), (tkG s i).k)) := fun i => rfl
  have HUL : Hid (∀ i, (choUp (tkG s) i).1.length ≤ 19 * i) := fun i => choUp_len _ i
  have HU0 : Hid (choUp (tkG s) 0 = ([], 0)) := rfl
  have HFG : Hid (∀ i, tkF s i = tkI (tkG s i)) := fun i => tkF_G s i
  have HAR : Hid (∀ w B v, w.ownsRow B 95 4 v (tkL s).length (tkC (tkL s)) → TkArg w v (tkL s).length (tkF s)) := fun w B v h => own_arg h
  unfold choS
  generalize (tkL s).length = N at *
  generalize tkC (tkL s) = xs at *
  generalize tkF s = FI at *
  generalize hU : choUp (tkG s) = U at *
  clear hU
  generalize tkG s = G at *
  go_enter Try.func47, Try.ntmps47
  go_wp2_with fail
  refine (HT.out _).mono ?_
  rintro e w1 ⟨⟨tv, rfl, ho⟩, hb1⟩
  have HTA : Hid (TkArg w1 tv N FI) := HAR.out _ _ _ ho
  have HB1 : Hid (Below w.heap.size w w1) := hb1
  obtain ⟨B, hB⟩ : ∃ B, B = w1.heap.size := ⟨_, rfl⟩
  have HBE : Hid (B = w1.heap.size) := hB
  obtain ⟨ta, tc, rfl, _⟩ := HTA.out
  have HO0 : Hid ((w1.alloc (.cells #[] 106)).ownsRow B 106 2 (.slice (some ⟨w1.heap.size, 0, none⟩) 0 0) 0 (cC [])) := World.ownsRow_made w1 #[] 0 (by omega) (by unfold maxLen; omega) rfl
  clear ho hb1 HT HAR
  go_wp2_with fail
  go_loopw [6, 7, 8] (fun x la ix wr => ∃ (gu cu i : Nat), x = .slice (some ⟨gu, 0, none⟩) (U i).1.length cu ∧ la = .int .i64 ((U i).2 : Int) ∧ ix = .int .i64 (i : Int) ∧ i ≤ N ∧ Hid (wr.ownsRow B 106 2 (.slice (some ⟨gu, 0, none⟩) (U i).1.length cu) (U i).1.length (cC (U i).1)) ∧ Hid (Below B w1 wr)) (fun _ _ ix _ => N - (cIntOf ix).toNat)
  case atStart => exact ⟨w1.heap.size, 0, 0, by rw [HU0.out]; rfl, by rw [HU0.out]; rfl, rfl, Nat.zero_le _, by rw [HU0.out]; exact HO0, by rw [hB]; exact (Below.refl _ w1).alloc (Nat.le_refl _) _⟩
  case round =>
    clear HO0 hB
    obtain ⟨gu, cu, i, rfl, rfl, rfl, hi, HO, HB⟩ := hrel
    have hN4 := HLN.out
    by_cases hlt : i < N
    · have hltI : (i : Int) < (N : Int) := by omega
      have hbw : Below w1.heap.size w1 wr := by have := HB.out; rw [HBE.out] at this; exact this
      obtain ⟨a', c', e1, hr⟩ := HTA.out.below hbw
      cases e1
      obtain ⟨g, rfl, hrow⟩ := hr (by omega)
      obtain ⟨q, hq⟩ : ∃ q, q = 4 * i := ⟨_, rfl⟩
      have hiq : i * 4 = q := by omega
      have x0 := hrow.c0 i hlt
      have x1 := hrow.c1 i hlt
      have x2 := hrow.c2 i hlt
      have x3 := hrow.c3 i hlt
      rw [← hq, HFG.out i] at x0 x1 x2 x3
      have hok := HOK.out i hlt
      have hul := HUL.out i
      have HUN := HUS.out i
      have HUNX : Hid _ := HUN
      clear hbw hrow hq hr HUN
      generalize G i = t at x0 x1 x2 x3 hok HUNX
      obtain ⟨tk, tb, td, tl⟩ := t
      simp only [tkI] at x0 x1 x2 x3
      obtain ⟨la, hla⟩ : ∃ la, la = (U i).2 := ⟨_, rfl⟩
      obtain ⟨M, hM⟩ : ∃ M, M = (U i).1 := ⟨_, rfl⟩
      rw [← hla, ← hM] at HUNX
      rw [← hla, ← hM]
      rw [← hM] at HO hul
      clear hla hM
      have HSN : Hid (cC (M ++ [(la, tk)]) = cC M ++ [.int .i64 (la : Int), .int .i64 (tk : Int)]) := cC_snoc _ _ _
      have hBl : B ≤ wr.heap.size := by have := HB.out.size; have := HBE.out; omega
      obtain ⟨bx, hbx⟩ : ∃ bx, bx = wr.heap.size := ⟨_, rfl⟩
      have HO1 : Hid ((wr.alloc (.cells #[.int .i64 (tk : Int), .int .i64 (tb : Int), .int .i64 (td : Int), .int .i64 (tl : Int)] 95)).ownsRow B 106 2 (.slice (some ⟨gu, 0, none⟩) M.length cu) M.length (cC M)) := HO.out.alloc _
      have HBB1 : Hid (Below B w1 (wr.alloc (.cells #[.int .i64 (tk : Int), .int .i64 (tb : Int), .int .i64 (td : Int), .int .i64 (tl : Int)] 95)) ∧ B ≤ (wr.alloc (.cells #[.int .i64 (tk : Int), .int .i64 (tb : Int), .int .i64 (td : Int), .int .i64 (tl : Int)] 95)).heap.size ∧ gu ≠ bx ∧ bx < (wr.alloc (.cells #[.int .i64 (tk : Int), .int .i64 (tb : Int), .int .i64 (td : Int), .int .i64 (tl : Int)] 95)).heap.size ∧ gu < bx) := by
        have hl := (HO.out.lt gu rfl).2
        refine ⟨HB.out.alloc hBl _, by simp; omega, by omega, by rw [hbx]; simp, by omega⟩
      have HBX1 : Hid ((wr.alloc (.cells #[.int .i64 (tk : Int), .int .i64 (tb : Int), .int .i64 (td : Int), .int .i64 (tl : Int)] 95)).heap[bx]? = some (.cells #[.int .i64 (tk : Int), .int .i64 (tb : Int), .int .i64 (td : Int), .int .i64 (tl : Int)] 95 (0, 0))) := by rw [hbx]; exact heap_alloc_new _ _
      have k0 : (wr.alloc (.cells #[.int .i64 (tk : Int), .int .i64 (tb : Int), .int .i64 (td : Int), .int .i64 (tl : Int)] 95)).cell? ⟨wr.heap.size, 0, none⟩ = some (.int .i64 (tk : Int)) := cell_of_row _ _ _ _ _ _ (heap_alloc_new _ _)
      have HBXE : Hid (wr.heap.size = bx) := hbx.symm
      have hN2 : ∀ (x y : Value) (j : Nat) (u : Value), [x, y][j]? = some u → ((wr.alloc (.cells #[.int .i64 (tk : Int), .int .i64 (tb : Int), .int .i64 (td : Int), .int .i64 (tl : Int)] 95)).alloc (.cells #[x, y] 106)).cell? ((⟨wr.heap.size + 1, 0, none⟩ : Addr).add j) = some u := fun x y j u hj => by
        have h := cell_two (w := (wr.alloc (.cells #[.int .i64 (tk : Int), .int .i64 (tb : Int), .int .i64 (td : Int), .int .i64 (tl : Int)] 95))) (t := 106) j u hj
        simpa using h
      clear HO HB hbx
      go_wp2_with (at_builtin; refine wpList_append_fr _ rfl _ _ 58 rfl B 106 i0 (.agg #[.int .i64 0, .int .i64 0]) 2 16 Try.underlying58 hi0 hz0 hz1 hz2 rfl (by decide) gu cu M.length _ rfl (HO1.out.alloc _) ⟨wr.heap.size + 1, 0, none⟩ 1 1 [_, _] rfl rfl (hN2 _ _) ?c2 ?c3 ?c4 ?c5 ?_)
      case c2 => first | exact ⟨rfl, rfl⟩ | (intro u hu; simp at hu; rcases hu with rfl | rfl <;> rfl)
      case c3 => unfold maxLen; omega
      case c4 => omega
      case c5 => first | omega | (simp; omega)
      intro g3 c3 w3 hown' hgrow hg3
      obtain ⟨M3, hM3⟩ : ∃ X, X = M ++ [(la, tk)] := ⟨_, rfl⟩
      have HM3 : Hid (M3 = M ++ [(la, tk)]) := hM3
      have HL3 : Hid (M3.length = M.length + 1) := by show _ = _; rw [hM3]; simp
      have HO3 : Hid (w3.ownsRow B 106 2 (.slice (some ⟨g3, 0, none⟩) M3.length c3) M3.length (cC M3)) := by rw [hM3, HSN.out, List.length_append]; exact hown'
      have HB3 : Hid (Below B w1 w3 ∧ B ≤ w3.heap.size ∧ g3 ≠ bx ∧ bx < w3.heap.size) := by
        have hs := hgrow.size
        have h1 := HBB1.out.2.1
        have h2 := HBB1.out.2.2.1
        have h3 := HBB1.out.2.2.2.1
        have h4 := HO1.out.lt gu rfl
        simp only [World.size_alloc] at hs h1 h3
        refine ⟨(HBB1.out.1.alloc (by simp; omega) _).grown hgrow (by simp; omega) (fun k hk => by have := Option.some.inj hk; omega), by omega, ?_, by omega⟩
        rcases hg3 with h | h
        · omega
        · have h' : wr.heap.size + 1 + 1 ≤ g3 := by simpa using h
          omega
      have HBX3 : Hid (w3.heap[bx]? = some (.cells #[.int .i64 (tk : Int), .int .i64 (tb : Int), .int .i64 (td : Int), .int .i64 (tl : Int)] 95 (0, 0))) := (hgrow.block bx (by have := HBB1.out.2.2.2.1; simp only [World.size_alloc] at this ⊢; omega) (by intro e; exact HBB1.out.2.2.1 (Option.some.inj e).symm)).trans ((Below.heap_alloc _ _ _ HBB1.out.2.2.2.1).trans HBX1.out)
      rw [← HL3.out]
      have hl3 : M3.length ≤ 19 * i + 1 := by have := HL3.out; omega
      clear hM3 hown' hgrow hg3 HO1 HBB1 HBX1 k0 hN2 x0 x1 x2 x3 HSN
      rw [HBXE.out]
      obtain ⟨BR, hBR⟩ : ∃ BR : Array Value, BR = #[.int .i64 (tk : Int), .int .i64 (tb : Int), .int .i64 (td : Int), .int .i64 (tl : Int)] := ⟨_, rfl⟩
      have HBR : Hid (BR[2]? = some (.int .i64 (td : Int))) := by show _ = _; rw [hBR]; rfl
      have m0 : w3.cell? ⟨bx, 0, none⟩ = some (.int .i64 (tk : Int)) := cell_of_row _ _ _ _ _ _ HBX3.out
      have m1 : w3.cell? ⟨bx, 1, none⟩ = some (.int .i64 (tb : Int)) := cell_of_row _ _ _ _ _ _ HBX3.out
      have m3 : w3.cell? ⟨bx, 3, none⟩ = some (.int .i64 (tl : Int)) := cell_of_row _ _ _ _ _ _ HBX3.out
      rw [← hBR] at HBX3
      clear hBR
      rcases hok with ⟨h1, h2⟩ | ⟨h1, h2, h3, h4, h5⟩
      · simp only at h1 h2
        subst h1
        clear HBXE
        go_wp2_with fail
        obtain ⟨M4, hE4⟩ : ∃ X, X = M3 ++ treeL 1 tb 8 1 := ⟨_, rfl⟩
        have HE4 : Hid (M4 = M3 ++ treeL 1 tb 8 1) := hE4
        have hL4 : M4.length = M3.length + 8 := by rw [hE4, List.length_append, treeL_len]
        clear hE4
        refine (HTR.out B g3 c3 (M3) 1 8 (tb) 1 8 M4 w3 rfl rfl HE4.out (by omega) (by omega) (by omega) (by omega) HO3.out HB3.out.2.1).mono ?_
        rintro e w4 ⟨⟨g4, c4, rfl, ho4, hg4⟩, hgr4⟩
        have HO4 : Hid (w4.ownsRow B 106 2 (.slice (some ⟨g4, 0, none⟩) (M4).length c4) (M4).length (cC (M4))) := ho4
        have HB4 : Hid (Below B w1 w4 ∧ B ≤ w4.heap.size ∧ g4 ≠ bx ∧ bx < w4.heap.size) := by
          have hs := hgr4.size
          have h1 := HB3.out.2.1
          have h2 := HB3.out.2.2.1
          have h3 := HB3.out.2.2.2
          have h4 := HO3.out.lt g3 rfl
          exact ⟨HB3.out.1.grown hgr4 h1 (fun k hk => by have := Option.some.inj hk; omega), by omega, by rcases hg4 with h | h <;> omega, by omega⟩
        have HBX4 : Hid (w4.heap[bx]? = some (.cells BR 95 (0, 0))) := (hgr4.block bx HB3.out.2.2.2 (by intro e; exact HB3.out.2.2.1 (Option.some.inj e).symm)).trans HBX3.out
        have HL4 : Hid (M4.length = M3.length + 8) := hL4
        clear ho4 hg4 hgr4 HO3 HB3 HBX3 hL4
        have HU : Hid (U (i + 1) = (M4, 0)) := by show _ = _; rw [HUNX.out, HE4.out, HM3.out]; simp [tokCh]
        go_wp2_with fail
        go_roundw
        case rel => exact ⟨g4, c4, i + 1, by rw [HU.out], by rw [HU.out]; rfl, by go_num, by omega, by rw [HU.out]; exact HO4, HB4.out.1⟩
        case measure => simp [cIntOf]; omega
      · simp only at h1 h2 h3 h4 h5
        subst h1
        clear HBXE
        obtain ⟨lv, hlv⟩ : ∃ lv, lv = tl - 3 := ⟨_, rfl⟩
        have e1 : (tl : Int) - 3 = (lv : Int) := by omega
        have e1w : IntKind.i64.wrap ((tl : Int) - 3) = (lv : Int) := by rw [IntKind.wrap_i64]; omega
        obtain ⟨dv, hdv⟩ : ∃ dv, dv = td - 1 := ⟨_, rfl⟩
        have e2 : (td : Int) - 1 = (dv : Int) := by omega
        have e2w : IntKind.i64.wrap ((td : Int) - 1) = (dv : Int) := by rw [IntKind.wrap_i64]; omega
        obtain ⟨fv, hfv⟩ : ∃ fv, fv = dv / 64 := ⟨_, rfl⟩
        obtain ⟨nv, hnv⟩ : ∃ nv, nv = dv % 64 := ⟨_, rfl⟩
        have e3 : Int.tdiv (dv : Int) 64 = (fv : Int) := by rw [Int.tdiv_eq_ediv_of_nonneg (by omega)]; omega
        have e3w : IntKind.i64.wrap (fv : Int) = (fv : Int) := by rw [IntKind.wrap_i64]; omega
        have e4 : Int.tmod (dv : Int) 64 = (nv : Int) := by rw [Int.tmod_eq_emod_of_nonneg (by omega)]; omega
        have hlv2 : lv < 64 := by omega
        have hfv2 : fv < 64 := by omega
        have hnv2 : nv < 64 := by omega
        have HU : Hid (U (i + 1) = (M3 ++ treeL 260 lv 6 1 ++ treeL 330 fv 6 1 ++ treeL 400 nv 6 1, 1)) := by show _ = _; rw [HUNX.out, HM3.out]; simp [tokCh, hlv, hfv, hnv, hdv]
        clear hlv hdv hfv hnv HUNX
        go_wp2_with fail
        obtain ⟨M4, hE4⟩ : ∃ X, X = M3 ++ treeL 260 lv 6 1 := ⟨_, rfl⟩
        have HE4 : Hid (M4 = M3 ++ treeL 260 lv 6 1) := hE4
        have hL4 : M4.length = M3.length + 6 := by rw [hE4, List.length_append, treeL_len]
        clear hE4
        refine (HTR.out B g3 c3 (M3) 260 6 (lv) 260 6 M4 w3 rfl rfl HE4.out (by omega) (by omega) (by omega) (by omega) HO3.out HB3.out.2.1).mono ?_
        rintro e w4 ⟨⟨g4, c4, rfl, ho4, hg4⟩, hgr4⟩
        have HO4 : Hid (w4.ownsRow B 106 2 (.slice (some ⟨g4, 0, none⟩) (M4).length c4) (M4).length (cC (M4))) := ho4
        have HB4 : Hid (Below B w1 w4 ∧ B ≤ w4.heap.size ∧ g4 ≠ bx ∧ bx < w4.heap.size) := by
          have hs := hgr4.size
          have h1 := HB3.out.2.1
          have h2 := HB3.out.2.2.1
          have h3 := HB3.out.2.2.2
          have h4 := HO3.out.lt g3 rfl
          exact ⟨HB3.out.1.grown hgr4 h1 (fun k hk => by have := Option.some.inj hk; omega), by omega, by rcases hg4 with h | h <;> omega, by omega⟩
        have HBX4 : Hid (w4.heap[bx]? = some (.cells BR 95 (0, 0))) := (hgr4.block bx HB3.out.2.2.2 (by intro e; exact HB3.out.2.2.1 (Option.some.inj e).symm)).trans HBX3.out
        have HL4 : Hid (M4.length = M3.length + 6) := hL4
        clear ho4 hg4 hgr4 HO3 HB3 HBX3 hL4
        have hl4 : M4.length ≤ 19 * i + 7 := by have := HL4.out; omega
        have m2 : w4.cell? ⟨bx, 2, none⟩ = some (.int .i64 (td : Int)) := (cell_of_row _ _ _ _ _ _ HBX4.out).trans HBR.out
        go_wp2_with fail
        obtain ⟨M5, hE5⟩ : ∃ X, X = M4 ++ treeL 330 fv 6 1 := ⟨_, rfl⟩
        have HE5 : Hid (M5 = M4 ++ treeL 330 fv 6 1) := hE5
        have hL5 : M5.length = M4.length + 6 := by rw [hE5, List.length_append, treeL_len]
        clear hE5
        refine (HTR.out B g4 c4 (M4) 330 6 (fv) 330 6 M5 w4 rfl rfl HE5.out (by omega) (by omega) (by omega) (by omega) HO4.out HB4.out.2.1).mono ?_
        rintro e w5 ⟨⟨g5, c5, rfl, ho5, hg5⟩, hgr5⟩
        have HO5 : Hid (w5.ownsRow B 106 2 (.slice (some ⟨g5, 0, none⟩) (M5).length c5) (M5).length (cC (M5))) := ho5
        have HB5 : Hid (Below B w1 w5 ∧ B ≤ w5.heap.size ∧ g5 ≠ bx ∧ bx < w5.heap.size) := by
          have hs := hgr5.size
          have h1 := HB4.out.2.1
          have h2 := HB4.out.2.2.1
          have h3 := HB4.out.2.2.2
          have h4 := HO4.out.lt g4 rfl
          exact ⟨HB4.out.1.grown hgr5 h1 (fun k hk => by have := Option.some.inj hk; omega), by omega, by rcases hg5 with h | h <;> omega, by omega⟩
        have HBX5 : Hid (w5.heap[bx]? = some (.cells BR 95 (0, 0))) := (hgr5.block bx HB4.out.2.2.2 (by intro e; exact HB4.out.2.2.1 (Option.some.inj e).symm)).trans HBX4.out
        have HL5 : Hid (M5.length = M4.length + 6) := hL5
        clear ho5 hg5 hgr5 HO4 HB4 HBX4 hL5
        have hl5 : M5.length ≤ 19 * i + 13 := by have := HL5.out; omega
        have m2 : w5.cell? ⟨bx, 2, none⟩ = some (.int .i64 (td : Int)) := (cell_of_row _ _ _ _ _ _ HBX5.out).trans HBR.out
        go_wp2_with fail
        obtain ⟨M6, hE6⟩ : ∃ X, X = M5 ++ treeL 400 nv 6 1 := ⟨_, rfl⟩
        have HE6 : Hid (M6 = M5 ++ treeL 400 nv 6 1) := hE6
        have hL6 : M6.length = M5.length + 6 := by rw [hE6, List.length_append, treeL_len]
        clear hE6
        refine (HTR.out B g5 c5 (M5) 400 6 (nv) 400 6 M6 w5 rfl rfl HE6.out (by omega) (by omega) (by omega) (by omega) HO5.out HB5.out.2.1).mono ?_
        rintro e w6 ⟨⟨g6, c6, rfl, ho6, hg6⟩, hgr6⟩
        have HO6 : Hid (w6.ownsRow B 106 2 (.slice (some ⟨g6, 0, none⟩) (M6).length c6) (M6).length (cC (M6))) := ho6
        have HB6 : Hid (Below B w1 w6 ∧ B ≤ w6.heap.size ∧ g6 ≠ bx ∧ bx < w6.heap.size) := by
          have hs := hgr6.size
          have h1 := HB5.out.2.1
          have h2 := HB5.out.2.2.1
          have h3 := HB5.out.2.2.2
          have h4 := HO5.out.lt g5 rfl
          exact ⟨HB5.out.1.grown hgr6 h1 (fun k hk => by have := Option.some.inj hk; omega), by omega, by rcases hg6 with h | h <;> omega, by omega⟩
        have HBX6 : Hid (w6.heap[bx]? = some (.cells BR 95 (0, 0))) := (hgr6.block bx HB5.out.2.2.2 (by intro e; exact HB5.out.2.2.1 (Option.some.inj e).symm)).trans HBX5.out
        have HL6 : Hid (M6.length = M5.length + 6) := hL6
        clear ho6 hg6 hgr6 HO5 HB5 HBX5 hL6
        have HU6 : Hid (U (i + 1) = (M6, 1)) := by show _ = _; rw [HU.out, HE6.out, HE5.out, HE4.out]
        go_wp2_with fail
        go_roundw
        case rel => exact ⟨g6, c6, i + 1, by rw [HU6.out], by rw [HU6.out]; rfl, by go_num, by omega, by rw [HU6.out]; exact HO6, HB6.out.1⟩
        case measure => simp [cIntOf]; omega
    · obtain rfl : i = N := by omega
      have HF : Hid (wr.ownsRow w.heap.size 106 2 (.slice (some ⟨gu, 0, none⟩) (U i).1.length cu) (U i).1.length (cC (U i).1) ∧ Below w.heap.size w wr) := by
        have h1 := HB1.out
        have h2 := HBE.out
        exact ⟨owns_lower HO.out (by have := h1.size; omega), bl3c h1 HB.out (by have := h1.size; omega)⟩
      clear HO HB
      go_wp2_with fail
      go_ret2
      exact ⟨⟨_, rfl, HF.out.1⟩, HF.out.2⟩
end Go.Proofs.Ytibciflmalfbjaa

/-!   The choices of a text that is too long: the specification's. -/
namespace Go.Proofs.Ytibciflmalfbjaa
open Go.RowKit
set_option linter.unusedVariables false
set_option linter.unusedSimpArgs false
set_option maxRecDepth 100000 in
theorem schoices_no (s : ByteArray) (w : World) (hs : ¬ s.size ≤ 4000) :
    Calls Try.prog 47 #[.string s] w fun e w' => e = .returned (.tuple #[.slice none 0 0, .bool false]) ∧ w' = w := by
  have H : Hid (∀ w, _) := fun w => stokens_no s w hs
  clear hs
  go_enter Try.func47, Try.ntmps47
  go_wp2_with fail
  refine (H.out _).mono ?_
  rintro e w1 ⟨rfl, rfl⟩
  go_wp2_with fail
  go_ret2
  exact ⟨rfl, rfl⟩
end Go.Proofs.Ytibciflmalfbjaa
