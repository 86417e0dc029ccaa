/-
  Several texts of this seat as one: In, Dp, Pc.
-/
import Derived.Test.YtpeddaljgmkomaaRows
import Derived.WalkKit
import Derived.WalkSpells
import Derived.Below
import Derived.Deep.MidRow
import Derived.Laws.MakeOwn
import Derived.Laws.AppendOwn
import Derived.OwnWalk

/-!   Whether a number lies between two. -/
namespace Go.Proofs.Ytpeddaljgmkomaa
open Go.RowKit
theorem in_yes (x lo hi : Int) (w : World) (h1 : lo ≤ x) (h2 : x ≤ hi) : Calls Try.prog 42 #[.int .i64 x, .int .i64 lo, .int .i64 hi] w fun e w' => e = .returned (.bool true) ∧ w' = w := by
  go_enter Try.func42, Try.ntmps42
  go_wp2_with fail
  go_ret
  exact ⟨rfl, rfl⟩
theorem in_no (x lo hi : Int) (w : World) (h : ¬ (lo ≤ x ∧ x ≤ hi)) : Calls Try.prog 42 #[.int .i64 x, .int .i64 lo, .int .i64 hi] w fun e w' => e = .returned (.bool false) ∧ w' = w := by
  by_cases h1 : lo ≤ x
  · have h2 : ¬ x ≤ hi := fun k => h ⟨h1, k⟩
    clear h
    go_enter Try.func42, Try.ntmps42
    go_wp2_with fail
    go_ret
    exact ⟨rfl, rfl⟩
  · clear h
    go_enter Try.func42, Try.ntmps42
    go_wp2_with fail
    go_ret
    exact ⟨rfl, rfl⟩
end Go.Proofs.Ytpeddaljgmkomaa

/-!   Deep values: lists of structs that may hold lists; how they lie in memory; that they stay while other blocks turn. -/
namespace Go.Proofs.Ytpeddaljgmkomaa
open Go.RowKit
set_option linter.unusedVariables false
set_option linter.unusedSimpArgs false
/-- deep data: one cell, or a list of structs of k cells each, told cell by cell -/
inductive Dd where
  | one (v : Value) : Dd
  | list (e k : Nat) (ds : List Dd) : Dd
/-- a deep value that can be read, wherever its rows begin -/
inductive Rd (w : World) : Dd → Value → Prop
  | one (v : Value) : Rd w (.one v) v
  | nil (e k : Nat) (a : Option Addr) (c : Nat) : Rd w (.list e k []) (.slice a 0 c)
  | list (e k n c g off : Nat) (ds : List Dd) (val : Nat → Value) (hn : 0 < n) (hl : ds.length = k * n) (hg : g < w.heap.size) (hc : ∀ j, j < ds.length → w.cell? ⟨g, off + j, none⟩ = some (val j)) (hd : ∀ j x, ds[j]? = some x → Rd w x (val j)) : Rd w (.list e k ds) (.slice (some ⟨g, off, none⟩) n c)
/-- a deep value in rows of their own, with the blocks that it takes -/
inductive Hd (w : World) : Dd → Value → List Nat → Prop
  | one (v : Value) : Hd w (.one v) v []
  | nil (e k : Nat) (a : Option Addr) (c : Nat) : Hd w (.list e k []) (.slice a 0 c) []
  | list (e k n c g : Nat) (ds : List Dd) (cur : Array Value) (val : Nat → Value) (fb : Nat → List Nat) (hn : 0 < n) (hl : ds.length = k * n) (hr : w.heap[g]? = some (.cells cur e (0, 0))) (hs : k * n ≤ cur.size) (hc : ∀ j, j < ds.length → cur[j]? = some (val j)) (hd : ∀ j x, ds[j]? = some x → Hd w x (val j) (fb j)) : Hd w (.list e k ds) (.slice (some ⟨g, 0, none⟩) n c) (g :: (List.range ds.length).flatMap fb)
theorem Rd.under {w w' : World} {d : Dd} {v : Value} (h : Rd w d v) (hb : Below w.heap.size w w') : Rd w' d v := by
  induction h with
  | one v => exact .one v
  | nil e k a c => exact .nil e k a c
  | list e k n c g off ds val hn hl hg hc hd ih =>
    exact .list e k n c g off ds val hn hl (Nat.lt_of_lt_of_le hg hb.size) (fun j hj => (hb.cell (p := ⟨g, off + j, none⟩) hg).trans (hc j hj)) ih
theorem Hd.keep {w w' : World} {d : Dd} {v : Value} {bs : List Nat} (h : Hd w d v bs) (hk : ∀ b ∈ bs, w'.heap[b]? = w.heap[b]?) : Hd w' d v bs := by
  induction h with
  | one v => exact .one v
  | nil e k a c => exact .nil e k a c
  | list e k n c g ds cur val fb hn hl hr hs hc hd ih =>
    refine .list e k n c g ds cur val fb hn hl ((hk g (by simp)).trans hr) hs hc fun j x hx => ih j x hx fun b hb => hk b ?_
    have hj := (List.getElem?_eq_some_iff.1 hx).1
    exact List.mem_cons_of_mem _ (List.mem_flatMap.2 ⟨j, List.mem_range.2 hj, hb⟩)
theorem Hd.lt {w : World} {d : Dd} {v : Value} {bs : List Nat} (h : Hd w d v bs) : ∀ b ∈ bs, b < w.heap.size := by
  induction h with
  | one v => intro b hb; cases hb
  | nil e k a c => intro b hb; cases hb
  | list e k n c g ds cur val fb hn hl hr hs hc hd ih =>
    intro b hb
    rcases List.mem_cons.1 hb with rfl | hb
    · exact (Array.getElem?_eq_some_iff.1 hr).1
    · obtain ⟨j, hj, hb⟩ := List.mem_flatMap.1 hb
      exact ih j _ (List.getElem?_eq_getElem (List.mem_range.1 hj)) b hb
theorem Hd.under {w w' : World} {d : Dd} {v : Value} {bs : List Nat} (h : Hd w d v bs) (hb : Below w.heap.size w w') : Hd w' d v bs := h.keep fun b hb' => hb.block b (h.lt b hb')
theorem Hd.rd {w : World} {d : Dd} {v : Value} {bs : List Nat} (h : Hd w d v bs) : Rd w d v := by
  induction h with
  | one v => exact .one v
  | nil e k a c => exact .nil e k a c
  | list e k n c g ds cur val fb hn hl hr hs hc hd ih =>
    exact .list e k n c g 0 ds val hn hl (Array.getElem?_eq_some_iff.1 hr).1 (fun j hj => by rw [Nat.zero_add]; exact (cell_of_row _ _ _ _ _ _ hr).trans (hc j hj)) ih
/-- a deep value whose rows are new from block lo on, no two of them one -/
def Own (w : World) (lo : Nat) (d : Dd) (v : Value) : Prop := ∃ bs, Hd w d v bs ∧ bs.Nodup ∧ ∀ b ∈ bs, lo ≤ b
theorem Own.under {w w' : World} {lo : Nat} {d : Dd} {v : Value} (h : Own w lo d v) (hb : Below w.heap.size w w') : Own w' lo d v := by
  obtain ⟨bs, h1, h2, h3⟩ := h
  exact ⟨bs, h1.under hb, h2, h3⟩
theorem Own.base {w : World} {lo lo' : Nat} {d : Dd} {v : Value} (h : Own w lo d v) (hl : lo' ≤ lo) : Own w lo' d v := by
  obtain ⟨bs, h1, h2, h3⟩ := h
  exact ⟨bs, h1, h2, fun b hb => Nat.le_trans hl (h3 b hb)⟩
theorem Own.rd {w : World} {lo : Nat} {d : Dd} {v : Value} (h : Own w lo d v) : Rd w d v := by
  obtain ⟨bs, h1, _⟩ := h
  exact h1.rd
/-- what lies below lo may turn -/
theorem Own.keep {w w' : World} {lo : Nat} {d : Dd} {v : Value} (h : Own w lo d v) (hk : ∀ b, lo ≤ b → b < w.heap.size → w'.heap[b]? = w.heap[b]?) : Own w' lo d v := by
  obtain ⟨bs, h1, h2, h3⟩ := h
  exact ⟨bs, h1.keep fun b hb => hk b (h3 b hb) (h1.lt b hb), h2, h3⟩
theorem Rd.one_inv {w : World} {u v : Value} (h : Rd w (.one u) v) : v = u := by cases h; rfl
theorem Hd.one_inv {w : World} {u v : Value} {bs : List Nat} (h : Hd w (.one u) v bs) : v = u ∧ bs = [] := by cases h; exact ⟨rfl, rfl⟩
/-- a list as a value -/
theorem Rd.slice {w : World} {e k : Nat} {ds : List Dd} {v : Value} (h : Rd w (.list e k ds) v) : ∃ a n c, v = .slice a n c ∧ ds.length = k * n ∧ (0 < n → ∃ (g off : Nat) (val : Nat → Value), a = some ⟨g, off, none⟩ ∧ g < w.heap.size ∧ (∀ j, j < ds.length → w.cell? ⟨g, off + j, none⟩ = some (val j)) ∧ ∀ j x, ds[j]? = some x → Rd w x (val j)) := by
  cases h with
  | @nil _ _ a c => exact ⟨a, 0, c, rfl, by simp, fun h => absurd h (by omega)⟩
  | @list _ _ n c g off _ val hn hl hg hc hd => exact ⟨_, n, c, rfl, hl, fun _ => ⟨g, off, val, rfl, hg, hc, hd⟩⟩
theorem Hd.slice {w : World} {e k : Nat} {ds : List Dd} {v : Value} {bs : List Nat} (h : Hd w (.list e k ds) v bs) : ∃ a n c, v = .slice a n c ∧ ds.length = k * n ∧ (n = 0 → bs = []) ∧ (0 < n → ∃ (g : Nat) (cur : Array Value) (val : Nat → Value) (fb : Nat → List Nat), a = some ⟨g, 0, none⟩ ∧ w.heap[g]? = some (.cells cur e (0, 0)) ∧ k * n ≤ cur.size ∧ (∀ j, j < ds.length → cur[j]? = some (val j)) ∧ (∀ j x, ds[j]? = some x → Hd w x (val j) (fb j)) ∧ bs = g :: (List.range ds.length).flatMap fb) := by
  cases h with
  | @nil _ _ a c => exact ⟨a, 0, c, rfl, by simp, fun _ => rfl, fun h => absurd h (by omega)⟩
  | @list _ _ n c g _ cur val fb hn hl hr hs hc hd => exact ⟨_, n, c, rfl, hl, fun h => absurd h (by omega), fun _ => ⟨g, cur, val, fb, rfl, hr, hs, hc, hd, rfl⟩⟩
theorem dblow {B C : Nat} {a b c : World} (h : Below B a b) (k : Below C b c) (hBC : B ≤ C) : Below B a c := ⟨k.os.trans h.os, k.tape.trans h.tape, k.output.trans h.output, Nat.le_trans h.size k.size, fun i hi => (k.block i (Nat.lt_of_lt_of_le hi hBC)).trans (h.block i hi)⟩
theorem dhid {p : Prop} (h : p) : Hid p := h
theorem nodup_flatMap {fb : Nat → List Nat} {n : Nat} (h1 : ∀ i, i < n → (fb i).Nodup) (h2 : ∀ i j, i < j → j < n → ∀ b, b ∈ fb i → b ∉ fb j) : ((List.range n).flatMap fb).Nodup := by
  induction n with
  | zero => simp
  | succ n ih =>
    rw [List.range_succ, List.flatMap_append, List.nodup_append]
    refine ⟨ih (fun i hi => h1 i (by omega)) (fun i j hij hj => h2 i j hij (by omega)), by simpa using h1 n (by omega), ?_⟩
    intro a ha b hb e
    subst e
    obtain ⟨i, hi, ha⟩ := List.mem_flatMap.1 ha
    simp only [List.flatMap_cons, List.flatMap_nil, List.append_nil] at hb
    exact h2 i n (List.mem_range.1 hi) (by omega) a ha hb
/-- values of cells, each with what it leads to -/
inductive Ns (w : World) : List Value → List Dd → List Nat → Prop
  | nil : Ns w [] [] []
  | cons {u : Value} {us : List Value} {d : Dd} {ds : List Dd} {b bs : List Nat} (h : Hd w d u b) (t : Ns w us ds bs) : Ns w (u :: us) (d :: ds) (b ++ bs)
theorem Ns.app {w : World} {us us' : List Value} {ds ds' : List Dd} {bs bs' : List Nat} (h : Ns w us ds bs) (k : Ns w us' ds' bs') : Ns w (us ++ us') (ds ++ ds') (bs ++ bs') := by
  induction h with
  | nil => exact k
  | cons h t ih => rw [List.append_assoc]; exact .cons h ih
theorem Ns.len {w : World} {us : List Value} {ds : List Dd} {bs : List Nat} (h : Ns w us ds bs) : us.length = ds.length := by
  induction h with
  | nil => rfl
  | cons h t ih => simp [ih]
theorem Ns.lt {w : World} {us : List Value} {ds : List Dd} {bs : List Nat} (h : Ns w us ds bs) : ∀ b ∈ bs, b < w.heap.size := by
  induction h with
  | nil => intro b hb; cases hb
  | cons h t ih =>
    intro b hb
    rcases List.mem_append.1 hb with hb | hb
    · exact h.lt b hb
    · exact ih b hb
theorem Ns.keep {w w' : World} {us : List Value} {ds : List Dd} {bs : List Nat} (h : Ns w us ds bs) (hk : ∀ b ∈ bs, w'.heap[b]? = w.heap[b]?) : Ns w' us ds bs := by
  induction h with
  | nil => exact .nil
  | cons h t ih => exact .cons (h.keep fun b hb => hk b (List.mem_append.2 (Or.inl hb))) (ih fun b hb => hk b (List.mem_append.2 (Or.inr hb)))
theorem Ns.under {w w' : World} {us : List Value} {ds : List Dd} {bs : List Nat} (h : Ns w us ds bs) (hb : Below w.heap.size w w') : Ns w' us ds bs := h.keep fun b hb' => hb.block b (h.lt b hb')
theorem Ns.fn {w : World} {us : List Value} {ds : List Dd} {bs : List Nat} (h : Ns w us ds bs) : ∃ (val : Nat → Value) (fb : Nat → List Nat), bs = (List.range ds.length).flatMap fb ∧ (∀ j, j < ds.length → us[j]? = some (val j)) ∧ ∀ j x, ds[j]? = some x → Hd w x (val j) (fb j) := by
  induction h with
  | nil => exact ⟨fun _ => .bool false, fun _ => [], rfl, fun j hj => absurd hj (by simp), fun j x hx => by simp at hx⟩
  | @cons u us d ds b bs h t ih =>
    obtain ⟨val, fb, h1, h2, h3⟩ := ih
    refine ⟨fun j => match j with | 0 => u | j + 1 => val j, fun j => match j with | 0 => b | j + 1 => fb j, ?_, ?_, ?_⟩
    · rw [List.length_cons, List.range_succ_eq_map, List.flatMap_cons, List.flatMap_map, ← h1]
    · intro j hj
      cases j with
      | zero => rfl
      | succ j => exact h2 j (by simpa using hj)
    · intro j x hx
      cases j with
      | zero =>
        have e : d = x := by simpa using hx
        subst e; exact h
      | succ j => exact h3 j x (by simpa using hx)
theorem Ns.of_fn {w : World} : ∀ (ds : List Dd) (val : Nat → Value) (fb : Nat → List Nat), (∀ j x, ds[j]? = some x → Hd w x (val j) (fb j)) → Ns w ((List.range ds.length).map val) ds ((List.range ds.length).flatMap fb)
  | [], _, _, _ => .nil
  | d :: ds, val, fb, h => by
    have t := Ns.of_fn ds (fun j => val (j + 1)) (fun j => fb (j + 1)) fun j x hx => h (j + 1) x (by simpa using hx)
    rw [List.length_cons, List.range_succ_eq_map, List.map_cons, List.flatMap_cons, List.map_map, List.flatMap_map]
    exact .cons (h 0 d rfl) t
/-- a row of the kit's own, and what its cells lead to, as one deep value -/
theorem Own.of_row {w : World} {B e k n : Nat} {v : Value} {us : List Value} {ds : List Dd} {bs : List Nat} (h : w.ownsRow B e k v n us) (hk : 0 < k) (hs : Ns w us ds bs) (hl : ds.length = k * n) (hd : bs.Nodup) (hb : ∀ b ∈ bs, B ≤ b) (hv : ∀ g, v.ownBlock = some g → g ∉ bs) : Own w B (.list e k ds) v := by
  obtain ⟨h0, ⟨h1, hn⟩ | ⟨g, cap, cur, h1, h2, h3, h4, h5, h6, h7⟩⟩ := h
  · subst hn
    have e0 : ds = [] := List.length_eq_zero_iff.1 (by simpa using hl)
    subst e0 h1
    exact ⟨[], .nil _ _ _ _, List.nodup_nil, fun b hb => by cases hb⟩
  · subst h1
    by_cases h00 : n = 0
    · subst h00
      have e0 : ds = [] := List.length_eq_zero_iff.1 (by simpa using hl)
      subst e0
      exact ⟨[], .nil _ _ _ _, List.nodup_nil, fun b hb => by cases hb⟩
    obtain ⟨val, fb, e1, e2, e3⟩ := hs.fn
    have hks : k * n ≤ cur.size := by
      have hx : us.length = k * n := by rw [hs.len]; exact hl
      have := congrArg List.length h7
      rw [List.length_take, hx] at this
      have h9 := Nat.min_le_right (n * k) cur.toList.length
      rw [Nat.mul_comm k n] at this ⊢
      simp at this
      omega
    refine ⟨g :: bs, ?_, ?_, ?_⟩
    · rw [e1]
      exact .list e k n cap g ds cur val fb (by omega) hl h3 hks (fun j hj => by
        have h8 := e2 j hj
        rw [← h7, List.getElem?_take] at h8
        split at h8
        · simpa using h8
        · cases h8) e3
    · exact List.nodup_cons.2 ⟨hv g rfl, hd⟩
    · intro b hb'
      rcases List.mem_cons.1 hb' with rfl | hb'
      · exact h2
      · exact hb b hb'
/-- cells of structs of one length, one behind the other -/
theorem fm_len {α β : Type} {f : α → List β} {k : Nat} (hf : ∀ a, (f a).length = k) (L : List α) : (L.flatMap f).length = k * L.length := by
  induction L with
  | nil => rfl
  | cons a L ih => rw [List.flatMap_cons, List.length_append, hf, ih, List.length_cons, Nat.mul_succ, Nat.add_comm]
theorem fm_at {α β : Type} {f : α → List β} {k : Nat} (hf : ∀ a, (f a).length = k) : ∀ (L : List α) (i j : Nat) (a : α), L[i]? = some a → j < k → (L.flatMap f)[k * i + j]? = (f a)[j]?
  | [], i, j, a, h, _ => by simp at h
  | b :: L, 0, j, a, h, hj => by
    have e : b = a := by simpa using h
    subst e
    rw [List.flatMap_cons, Nat.mul_zero, Nat.zero_add, List.getElem?_append_left (by rw [hf]; exact hj)]
  | b :: L, i + 1, j, a, h, hj => by
    have ih := fm_at hf L i j a (by simpa using h) hj
    rw [List.flatMap_cons, List.getElem?_append_right (by rw [hf, Nat.mul_succ]; omega), hf, ← ih]
    congr 1
    rw [Nat.mul_succ]; omega
theorem fm_in {α β : Type} {f : α → List β} {k : Nat} (hk : 0 < k) (hf : ∀ a, (f a).length = k) {P : Nat → β → Prop} (L : List α) (h : ∀ i a, L[i]? = some a → ∀ j x, (f a)[j]? = some x → P (k * i + j) x) : ∀ t x, (L.flatMap f)[t]? = some x → P t x := by
  intro t x hx
  have hl := (List.getElem?_eq_some_iff.1 hx).1
  rw [fm_len hf] at hl
  have hi : t / k < L.length := Nat.div_lt_of_lt_mul hl
  have hm := Nat.mod_lt t hk
  have e : k * (t / k) + t % k = t := Nat.div_add_mod t k
  have h1 := fm_at hf L (t / k) (t % k) L[t / k] (List.getElem?_eq_getElem hi) hm
  rw [e, hx] at h1
  have := h (t / k) L[t / k] (List.getElem?_eq_getElem hi) (t % k) x h1.symm
  rwa [e] at this
theorem range_mul {β : Type} (fb : Nat → List β) (k : Nat) : ∀ n, (List.range (k * n)).flatMap fb = (List.range n).flatMap fun i => (List.range k).flatMap fun j => fb (k * i + j)
  | 0 => by simp
  | n + 1 => by rw [Nat.mul_succ, List.range_add, List.flatMap_append, range_mul fb k n, List.range_succ, List.flatMap_append, List.flatMap_map]; simp
theorem flat_two {β : Type} (x y : List β) : [x, y].flatMap id = x ++ y := by simp
theorem rows_foot {β : Type} {fb gb : Nat → List β} {k n : Nat} (h : ∀ i, i < n → (List.range k).flatMap (fun j => fb (k * i + j)) = gb i) : (List.range (k * n)).flatMap fb = (List.range n).flatMap gb := by
  rw [range_mul, List.flatMap_def, List.flatMap_def]
  congr 1
  exact List.map_congr_left fun i hi => h i (List.mem_range.1 hi)
/-- values of cells whose rows lie from block lo on, no two of them one -/
def Nst (w : World) (lo : Nat) (us : List Value) (ds : List Dd) : Prop := ∃ bs, Ns w us ds bs ∧ bs.Nodup ∧ ∀ b ∈ bs, lo ≤ b
theorem Nst.nil (w : World) (lo : Nat) : Nst w lo [] [] := ⟨[], .nil, List.nodup_nil, fun b hb => by cases hb⟩
theorem Nst.one {w : World} {lo : Nat} {us : List Value} {ds : List Dd} (u : Value) (h : Nst w lo us ds) : Nst w lo (u :: us) (.one u :: ds) := by
  obtain ⟨bs, h1, h2, h3⟩ := h
  exact ⟨bs, .cons (b := []) (.one u) h1, h2, h3⟩
theorem Own.nst {w : World} {lo : Nat} {d : Dd} {v : Value} (h : Own w lo d v) : Nst w lo [v] [d] := by
  obtain ⟨bs, h1, h2, h3⟩ := h
  refine ⟨bs ++ [], .cons h1 .nil, by simpa using h2, fun b hb => h3 b (by simpa using hb)⟩
theorem Nst.under {w w' : World} {lo : Nat} {us : List Value} {ds : List Dd} (h : Nst w lo us ds) (hb : Below w.heap.size w w') : Nst w' lo us ds := by
  obtain ⟨bs, h1, h2, h3⟩ := h
  exact ⟨bs, h1.under hb, h2, h3⟩
theorem Nst.keep {w w' : World} {lo : Nat} {us : List Value} {ds : List Dd} (h : Nst w lo us ds) (hk : ∀ b, lo ≤ b → b < w.heap.size → w'.heap[b]? = w.heap[b]?) : Nst w' lo us ds := by
  obtain ⟨bs, h1, h2, h3⟩ := h
  exact ⟨bs, h1.keep fun b hb => hk b (h3 b hb) (h1.lt b hb), h2, h3⟩
theorem Nst.base {w : World} {lo lo' : Nat} {us : List Value} {ds : List Dd} (h : Nst w lo us ds) (hl : lo' ≤ lo) : Nst w lo' us ds := by
  obtain ⟨bs, h1, h2, h3⟩ := h
  exact ⟨bs, h1, h2, fun b hb => Nat.le_trans hl (h3 b hb)⟩
/-- old ones, and new ones that were made behind them -/
theorem Nst.app {w0 w : World} {lo : Nat} {us us' : List Value} {ds ds' : List Dd} (h : Nst w0 lo us ds) (hb : Below w0.heap.size w0 w) (k : Nst w w0.heap.size us' ds') (hl : lo ≤ w0.heap.size) : Nst w lo (us ++ us') (ds ++ ds') := by
  obtain ⟨bs, h1, h2, h3⟩ := h
  obtain ⟨cs, k1, k2, k3⟩ := k
  refine ⟨bs ++ cs, (h1.under hb).app k1, List.nodup_append.2 ⟨h2, k2, fun a ha b hb' e => ?_⟩, fun b hb' => ?_⟩
  · have := h1.lt a ha
    have := k3 b hb'
    omega
  · rcases List.mem_append.1 hb' with h | h
    · exact h3 b h
    · exact Nat.le_trans hl (k3 b h)
theorem Own.of_nst {w : World} {B lo e k n : Nat} {v : Value} {us : List Value} {ds : List Dd} (h : w.ownsRow B e k v n us) (hk : 0 < k) (hs : Nst w lo us ds) (hl : ds.length = k * n) (hb : B ≤ lo) (hv : ∀ g, v.ownBlock = some g → g < lo) : Own w B (.list e k ds) v := by
  obtain ⟨bs, h1, h2, h3⟩ := hs
  exact Own.of_row h hk h1 hl h2 (fun b hb' => Nat.le_trans hb (h3 b hb')) fun g hg hm => by have := hv g hg; have := h3 g hm; omega
theorem fm_take {α β : Type} (f : α → List β) {L : List α} {i : Nat} {a : α} (h : L[i]? = some a) : (L.take (i + 1)).flatMap f = (L.take i).flatMap f ++ f a := by
  rw [List.take_add_one, h, List.flatMap_append]; simp
theorem sum_take {α : Type} (f : α → Nat) {L : List α} {i : Nat} {a : α} (h : L[i]? = some a) : ((L.take (i + 1)).map f).sum = ((L.take i).map f).sum + f a := by
  rw [List.take_add_one, h, List.map_append, List.sum_append]; simp
theorem sum_take_le {α : Type} (f : α → Nat) (L : List α) (i : Nat) : ((L.take i).map f).sum ≤ (L.map f).sum := by
  conv => rhs; rw [← List.take_append_drop i L]
  rw [List.map_append, List.sum_append]; omega
theorem sum_one {α : Type} (f : α → Nat) {L : List α} {a : α} (h : a ∈ L) : f a ≤ (L.map f).sum := by
  induction L with
  | nil => cases h
  | cons b L ih =>
    rw [List.map_cons, List.sum_cons]
    rcases List.mem_cons.1 h with rfl | h
    · omega
    · have := ih h; omega
/-- blocks laid one behind the other -/
def allocs (w : World) : List Obj → World
  | [] => w
  | o :: os => allocs (w.alloc o) os
theorem allocs_size : ∀ (os : List Obj) (w : World), (allocs w os).heap.size = w.heap.size + os.length
  | [], w => rfl
  | o :: os, w => by
    show (allocs (w.alloc o) os).heap.size = _
    rw [allocs_size os]; simp; omega
theorem allocs_low : ∀ (os : List Obj) (w : World), Below w.heap.size w (allocs w os)
  | [], w => Below.refl _ _
  | o :: os, w => by
    have h := allocs_low os (w.alloc o)
    exact dblow ((Below.refl _ _).alloc (Nat.le_refl _) _) h (by simp)
theorem allocs_at : ∀ (os : List Obj) (w : World) (i : Nat), i < os.length → (allocs w os).heap[w.heap.size + i]? = os[i]?
  | [], w, i, h => by simp at h
  | o :: os, w, 0, _ => by
    have h := (allocs_low os (w.alloc o)).block w.heap.size (by simp)
    show (allocs (w.alloc o) os).heap[w.heap.size]? = _
    rw [h]
    exact heap_alloc_new w o
  | o :: os, w, i + 1, h => by
    have h2 := allocs_at os (w.alloc o) i (by simpa using h)
    show (allocs (w.alloc o) os).heap[w.heap.size + (i + 1)]? = _
    rw [show w.heap.size + (i + 1) = (w.alloc o).heap.size + i by simp; omega, h2]
    rfl
/-- rows of unlike element types are two -/
theorem rows_apart {w : World} {B B' e e' s s' n n' : Nat} {v v' : Value} {xs xs' : List Value} (h : w.ownsRow B e s v n xs) (h' : w.ownsRow B' e' s' v' n' xs') (hne : e ≠ e') : v.ownBlock = none ∨ v.ownBlock ≠ v'.ownBlock := by
  obtain ⟨_, ⟨h0, _⟩ | ⟨g, cap, cur, h1, h2, h3, _⟩⟩ := h
  · subst h0; exact Or.inl rfl
  · obtain ⟨_, ⟨k0, _⟩ | ⟨g', cap', cur', k1, k2, k3, _⟩⟩ := h'
    · subst h1 k0; exact Or.inr fun c => by cases c
    · subst h1 k1
      refine Or.inr fun c => ?_
      have c : g = g' := Option.some.inj c
      subst c
      rw [h3] at k3
      injection k3 with k3
      injection k3 with _ k3 _
      exact hne k3
theorem owns_call {w w' : World} {B e s n : Nat} {v : Value} {xs : List Value} (h : w.ownsRow B e s v n xs) (hb : Below w.heap.size w w') : w'.ownsRow B e s v n xs := by
  obtain ⟨h0, h1 | ⟨g, cap, cur, h1, h2, h3, h4⟩⟩ := h
  · exact ⟨h0, Or.inl h1⟩
  · exact ⟨h0, Or.inr ⟨g, cap, cur, h1, h2, (hb.block g (Array.getElem?_eq_some_iff.1 h3).1).trans h3, h4⟩⟩
theorem owns1_at {w : World} {B e n : Nat} {v : Value} {xs : List Value} (h : w.ownsRow B e 1 v n xs) (h0 : 0 < n) : ∃ g c, v = .slice (some ⟨g, 0, none⟩) n c ∧ g < w.heap.size ∧ ∀ j u, xs[j]? = some u → w.cell? ⟨g, j, none⟩ = some u := by
  obtain ⟨_, ⟨_, hn⟩ | ⟨g, cap, cur, h1, h2, h3, h4, h5, h6, h7⟩⟩ := h
  · omega
  · refine ⟨g, cap, h1, (Array.getElem?_eq_some_iff.1 h3).1, fun j u hu => ?_⟩
    rw [cell_of_row _ _ _ _ _ _ h3]
    rw [← h7, List.getElem?_take] at hu
    split at hu
    · simpa using hu
    · cases hu
end Go.Proofs.Ytpeddaljgmkomaa

/-!   Pieces: as values, and what the law makes of one. -/
namespace Go.Proofs.Ytpeddaljgmkomaa
open Go.RowKit
set_option linter.unusedVariables false
set_option linter.unusedSimpArgs false
structure PcI where
  f : Int
  l : Int
  d : ByteArray
def pcV (f l : Int) (d : ByteArray) : Value := .agg #[.int .i64 f, .int .i64 l, .string d]
theorem Try.infP : (Try.prog.info? 89).map (fun i => (i.zero, i.size, i.bytes)) = some (some (.agg #[.int .i64 0, .int .i64 0, .string ⟨#[]⟩]), 3, 32) := by kernel_rfl
def intN : Value → Int | .int _ q => q | _ => 0
theorem bl3 {B C : Nat} {a b c : World} (h : Below B a b) (k : Below C b c) (hBC : B ≤ C) : Below B a c := ⟨k.os.trans h.os, k.tape.trans h.tape, k.output.trans h.output, Nat.le_trans h.size k.size, fun i hi => (k.block i (Nat.lt_of_lt_of_le hi hBC)).trans (h.block i hi)⟩
set_option maxRecDepth 100000 in
set_option maxHeartbeats 1000000 in
theorem toPc_any (f l : Int) (d : ByteArray) (w : World) :
    Calls Try.prog 94 #[pcV f l d] w fun e w' => e = .returned (pcV f l d) ∧ Below w.heap.size w w' := by
  unfold pcV
  go_enter Try.func94, Try.ntmps94
  go_wp2_with fail
  refine bodyPost_ret (results_cell_row rfl _ _ (w.heap.size + 1) 89 #[.int .i64 f, .int .i64 l, .string d] (0, 0) _ rfl ?_ Try.underlying89 rfl (by kernel_rfl)) rfl ⟨rfl, (((Below.refl _ _).alloc (Nat.le_refl _) _).alloc (by simp) _).alloc (by simp; omega) _⟩
  rw [Below.heap_alloc _ _ _ (by simp)]
  have h := heap_alloc_new (w.alloc (.cells #[.int .i64 f, .int .i64 l, .string d] 111)) (.cells #[.int .i64 f, .int .i64 l, .string d] 89)
  simpa using h
set_option maxRecDepth 100000 in
theorem eqPc_same (f l : Int) (d : ByteArray) (w : World) :
    Calls Try.prog 96 #[pcV f l d, pcV f l d] w fun e w' => e = .returned (.bool true) ∧ Below w.heap.size w w' := by
  unfold pcV
  go_enter Try.func96, Try.ntmps96
  go_wp2_with fail
  go_ret
  exact ⟨rfl, ((Below.refl _ _).alloc (Nat.le_refl _) _).alloc (by simp) _⟩
set_option maxRecDepth 100000 in
theorem szPc_any (f l : Int) (d : ByteArray) (L : Nat) (w : World) (hd : d.size ≤ maxLen) (hL : L ≤ 1048576) :
    Calls Try.prog 93 #[pcV f l d, .int .i64 (L : Int)] w fun e w' => e = .returned (.int .i64 (if d.size ≤ L then ((L - d.size : Nat) : Int) else -1)) ∧ Below w.heap.size w w' := by
  unfold pcV
  have hd' : d.size ≤ 9223372036854775807 := hd
  by_cases h : d.size ≤ L
  · rw [if_pos h]
    have hw : IntKind.i64.wrap ((L : Int) - (d.size : Int)) = ((L - d.size : Nat) : Int) := by rw [IntKind.wrap_i64]; omega
    have hl : ¬ ((L - d.size : Nat) : Int) < 0 := by omega
    go_enter Try.func93, Try.ntmps93
    go_wp2_with fail
    go_ret
    exact ⟨rfl, (Below.refl _ _).alloc (Nat.le_refl _) _⟩
  · rw [if_neg h]
    have hw : IntKind.i64.wrap ((L : Int) - (d.size : Int)) = (L : Int) - (d.size : Int) := by rw [IntKind.wrap_i64]; omega
    have hl : (L : Int) - (d.size : Int) < 0 := by omega
    go_enter Try.func93, Try.ntmps93
    go_wp2_with fail
    go_ret
    exact ⟨rfl, (Below.refl _ _).alloc (Nat.le_refl _) _⟩
end Go.Proofs.Ytpeddaljgmkomaa
