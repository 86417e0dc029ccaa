/-
  Several texts of this seat as one: Tok, UnMath, LonH.
-/
import Derived.Test.YtbkjcngehhdchaaPk00
import Derived.Below
import Derived.Test.YtbkjcngehhdchaaPk06
import Derived.Laws.AppendOwn
import Derived.OwnWalk
import Derived.Laws.Rows
import Derived.Test.YtbkjcngehhdchaaRows
import Derived.WalkKit
import Derived.OrdersHeld

/-!   Whether a token may stand where it does: the code's and the specification's. -/
namespace Go.Proofs.Ytbkjcngehhdchaa
open Go.RowKit
set_option linter.unusedVariables false
def tokP (k b d l h : Int) : Prop := 0 ≤ h ∧ ((k = 0 ∧ 0 ≤ b ∧ b ≤ 255 ∧ d = 0 ∧ l = 0) ∨ (k = 1 ∧ b = 0 ∧ 1 ≤ d ∧ d ≤ 4096 ∧ d ≤ h ∧ 3 ≤ l ∧ l ≤ 66))
def tokV (k b d l : Int) : Value := .agg #[.int .i64 k, .int .i64 b, .int .i64 d, .int .i64 l]
set_option maxRecDepth 100000 in
set_option maxHeartbeats 1000000 in
theorem tok_yes (k b d l h : Int) (w : World) (hp : tokP k b d l h) :
    Calls Try.prog 89 #[tokV k b d l, .int .i64 h] w fun e w' => e = .returned (.bool true) ∧ Below w.heap.size w w' := by
  unfold tokV
  obtain ⟨h0, ⟨rfl, h1, h2, rfl, rfl⟩ | ⟨rfl, rfl, h1, h2, h3, h4, h5⟩⟩ := hp
  · have hh : ¬ h < 0 := by omega
    go_enter Try.func89, Try.ntmps89
    go_wp2_with fail
    go_ret
    exact ⟨rfl, (Below.refl _ _).alloc (Nat.le_refl _) _⟩
  · have hh : ¬ h < 0 := by omega
    go_enter Try.func89, Try.ntmps89
    by_cases hm : 4096 ≤ h
    · have hmn : min (4096 : Int) h = 4096 := by omega
      go_wp2_with fail
      go_ret
      exact ⟨rfl, (Below.refl _ _).alloc (Nat.le_refl _) _⟩
    · have hmn : min (4096 : Int) h = h := by omega
      go_wp2_with fail
      go_ret
      exact ⟨rfl, (Below.refl _ _).alloc (Nat.le_refl _) _⟩
set_option maxRecDepth 100000 in
set_option maxHeartbeats 4000000 in
theorem tok_no (k b d l h : Int) (w : World) (hp : ¬ tokP k b d l h) :
    Calls Try.prog 89 #[tokV k b d l, .int .i64 h] w fun e w' => e = .returned (.bool false) ∧ Below w.heap.size w w' := by
  unfold tokV
  unfold tokP at hp
  by_cases hh : h < 0
  · clear hp
    go_enter Try.func89, Try.ntmps89
    go_wp2_with fail
    all_goals (go_ret; exact ⟨rfl, (Below.refl _ _).alloc (Nat.le_refl _) _⟩)
  by_cases hk : k = 0
  · subst hk
    by_cases c1 : 0 ≤ b <;> by_cases c2 : b ≤ 255 <;> by_cases c3 : d = 0 <;> by_cases c4 : l = 0
    all_goals first
      | (exfalso; omega)
      | (clear hp
         try have e3 := beq_eq_false_iff_ne.2 c3
         try have e4 := beq_eq_false_iff_ne.2 c4
         go_enter Try.func89, Try.ntmps89
         go_wp2_with fail
         all_goals (go_ret; exact ⟨rfl, (Below.refl _ _).alloc (Nat.le_refl _) _⟩))
  by_cases hk1 : k = 1
  · subst hk1
    by_cases c1 : b = 0
    · by_cases c2 : 1 ≤ d
      · by_cases c3 : d ≤ min 4096 h
        · by_cases c4 : 3 ≤ l
          · have c5 : ¬ l ≤ 66 := by omega
            clear hp
            go_enter Try.func89, Try.ntmps89
            go_wp2_with fail
            all_goals (go_ret; exact ⟨rfl, (Below.refl _ _).alloc (Nat.le_refl _) _⟩)
          · clear hp
            go_enter Try.func89, Try.ntmps89
            go_wp2_with fail
            all_goals (go_ret; exact ⟨rfl, (Below.refl _ _).alloc (Nat.le_refl _) _⟩)
        · clear hp
          go_enter Try.func89, Try.ntmps89
          go_wp2_with fail
          all_goals (go_ret; exact ⟨rfl, (Below.refl _ _).alloc (Nat.le_refl _) _⟩)
      · clear hp
        go_enter Try.func89, Try.ntmps89
        go_wp2_with fail
        all_goals (go_ret; exact ⟨rfl, (Below.refl _ _).alloc (Nat.le_refl _) _⟩)
    · clear hp
      have e1 := beq_eq_false_iff_ne.2 c1
      go_enter Try.func89, Try.ntmps89
      go_wp2_with fail
      all_goals (go_ret; exact ⟨rfl, (Below.refl _ _).alloc (Nat.le_refl _) _⟩)
  · clear hp
    have e1 := beq_eq_false_iff_ne.2 hk
    have e2 := beq_eq_false_iff_ne.2 hk1
    go_enter Try.func89, Try.ntmps89
    go_wp2_with fail
    all_goals (go_ret; exact ⟨rfl, (Below.refl _ _).alloc (Nat.le_refl _) _⟩)
end Go.Proofs.Ytbkjcngehhdchaa

/-!   What tokens make, as plain mathematics. -/
namespace Go.Proofs.Ytbkjcngehhdchaa
open Go.RowKit
set_option linter.unusedVariables false

structure TkI where
  k : Int
  b : Int
  d : Int
  l : Int
/-- m bytes more, each the one that stands d ahead of it -/
def cpI (d : Nat) (o : List Nat) : Nat → List Nat
  | 0 => o
  | m + 1 => cpI d o m ++ [(cpI d o m).getD ((cpI d o m).length - d) 0]
theorem cpI_len (d : Nat) (o : List Nat) : ∀ m, (cpI d o m).length = o.length + m
  | 0 => rfl
  | m + 1 => by show (_ ++ [_]).length = _; rw [List.length_append, cpI_len d o m]; rfl
def tkOut (o : List Nat) (t : TkI) : List Nat := if t.k = 0 then o ++ [t.b.toNat] else cpI t.d.toNat o t.l.toNat
noncomputable def unT (o : List Nat) (t : TkI) : Option (List Nat) := open Classical in if tokP t.k t.b t.d t.l (o.length : Int) ∧ (tkOut o t).length ≤ 4000 then some (tkOut o t) else none
noncomputable def unPre (F : Nat → TkI) : Nat → Option (List Nat)
  | 0 => some []
  | i + 1 => match unPre F i with
    | none => none
    | some o => unT o (F i)
theorem unPre_none {F : Nat → TkI} {i : Nat} (h : unPre F i = none) : ∀ j, unPre F (i + j) = none
  | 0 => h
  | j + 1 => by
    have := unPre_none h j
    show (match unPre F (i + j) with | none => none | some o => unT o (F (i + j))) = none
    rw [this]
theorem unPre_step {F : Nat → TkI} {i : Nat} {o : List Nat} (h : unPre F i = some o) : unPre F (i + 1) = unT o (F i) := by
  show (match unPre F i with | none => none | some o => unT o (F i)) = _
  rw [h]
theorem unT_yes {o : List Nat} {t : TkI} (h1 : tokP t.k t.b t.d t.l (o.length : Int)) (h2 : (tkOut o t).length ≤ 4000) : unT o t = some (tkOut o t) := by unfold unT; rw [if_pos ⟨h1, h2⟩]
theorem unT_no {o : List Nat} {t : TkI} (h : ¬ tokP t.k t.b t.d t.l (o.length : Int)) : unT o t = none := by unfold unT; rw [if_neg (fun c => h c.1)]
theorem unT_long {o : List Nat} {t : TkI} (h : ¬ (tkOut o t).length ≤ 4000) : unT o t = none := by unfold unT; rw [if_neg (fun c => h c.2)]
/-- bytes, each below 256 -/
def AllB (o : List Nat) : Prop := ∀ x ∈ o, x < 256
theorem getD_byte {o : List Nat} (h : AllB o) (i : Nat) : o.getD i 0 < 256 := by
  rw [List.getD_eq_getElem?_getD]
  by_cases c : i < o.length
  · rw [List.getElem?_eq_getElem c]; exact h _ (List.getElem_mem c)
  · rw [List.getElem?_eq_none (by omega)]; decide
theorem AllB.snoc {o : List Nat} (h : AllB o) {x : Nat} (hx : x < 256) : AllB (o ++ [x]) := by
  intro y hy
  rcases List.mem_append.1 hy with hy | hy
  · exact h y hy
  · simp at hy; subst hy; exact hx
theorem AllB.cp {o : List Nat} (h : AllB o) (d : Nat) : ∀ m, AllB (cpI d o m)
  | 0 => h
  | m + 1 => (AllB.cp h d m).snoc (getD_byte (AllB.cp h d m) _)
theorem AllB.tk {o : List Nat} (h : AllB o) {t : TkI} (hp : tokP t.k t.b t.d t.l (o.length : Int)) : AllB (tkOut o t) := by
  unfold tkOut
  split
  · rename_i hk
    rcases hp.2 with ⟨_, h1, h2, _⟩ | ⟨c, _⟩
    · exact h.snoc (by omega)
    · omega
  · exact h.cp _ _
theorem unPre_bytes {F : Nat → TkI} : ∀ {i : Nat} {o : List Nat}, unPre F i = some o → AllB o ∧ o.length ≤ 4000
  | 0, o, h => by
    have : some ([] : List Nat) = some o := h
    injection this with h
    subst h
    exact ⟨fun x hx => (by cases hx), by decide⟩
  | i + 1, o, h => by
    cases hc : unPre F i with
    | none => have := unPre_none hc 1; rw [h] at this; cases this
    | some o1 =>
      rw [unPre_step hc] at h
      obtain ⟨b1, _⟩ := unPre_bytes hc
      unfold unT at h
      split at h
      · rename_i hp
        injection h with h
        subst h
        exact ⟨b1.tk hp.1, hp.2⟩
      · cases h
/-- as cells, and as a text -/
def bL (o : List Nat) : List Value := o.map fun (x : Nat) => Value.int .u8 (x : Int)
theorem bL_len (o : List Nat) : (bL o).length = o.length := by simp [bL]
theorem bL_snoc (o : List Nat) (x : Nat) : bL o ++ [Value.int .u8 (x : Int)] = bL (o ++ [x]) := by simp [bL]
theorem bL_at (o : List Nat) (i : Nat) (h : i < o.length) : (bL o)[i]? = some (.int .u8 ((o.getD i 0 : Nat) : Int)) := by
  rw [bL, List.getElem?_map, List.getD_eq_getElem?_getD, List.getElem?_eq_getElem h]; rfl
def strL (o : List Nat) : ByteArray := ⟨(o.map UInt8.ofNat).toArray⟩
theorem strL_size (o : List Nat) : (strL o).size = o.length := by show (o.map UInt8.ofNat).toArray.size = _; simp
theorem Try.infb8 : (Try.prog.info? 5).map (fun i => (i.zero, i.size, i.bytes)) = some (some (.int .u8 0), 1, 1) := by kernel_rfl
theorem own_form1 {w : World} {B n : Nat} {v : Value} {xs : List Value} (h : w.ownsRow B 5 1 v n xs) (h0 : 0 < n) :
    ∃ g cap cur, v = .slice (some ⟨g, 0, none⟩) n cap ∧ B ≤ g ∧ w.heap[g]? = some (.cells cur 5 (0, 0)) ∧ ∀ (j : Nat) (u : Value), xs[j]? = some u → w.cell? ⟨g, j, none⟩ = some u := by
  obtain ⟨hl, ⟨_, h1⟩ | ⟨g, cap, cur, h1, h2, h3, h4, h5, h6, h7⟩⟩ := h
  · omega
  · refine ⟨g, cap, cur, h1, h2, h3, fun j u hj => ?_⟩
    rw [cell_of_row w g j _ _ _ h3]
    rw [← h7, List.getElem?_take] at hj
    split at hj
    · simpa using hj
    · cases hj
theorem own_len1 {w : World} {B n : Nat} {v : Value} {xs : List Value} (h : w.ownsRow B 5 1 v n xs) : ∃ a c, v = .slice a n c := by
  obtain ⟨hl, ⟨h0, hn⟩ | ⟨g, cap, cur, h1, _⟩⟩ := h
  · subst hn; exact ⟨_, _, h0⟩
  · exact ⟨_, _, h1⟩
theorem owns_call1 {w w' : World} {B : Nat} {e : TypeId} {v : Value} {n : Nat} {xs : List Value} (h : w.ownsRow B e 1 v n xs) (hb : Below w.heap.size w w') : w'.ownsRow B e 1 v n xs := by
  obtain ⟨h0, h1 | ⟨g, cap, cur, h1, h2, h3, h4, h5, h6, h7⟩⟩ := h
  · exact ⟨h0, Or.inl h1⟩
  · exact ⟨h0, Or.inr ⟨g, cap, cur, h1, h2, (hb.block g (Array.getElem?_eq_some_iff.1 h3).1).trans h3, h4, h5, h6, h7⟩⟩
theorem cell_one_new1 (w : World) (x : Value) (t : TypeId) : ∀ j u, [x][j]? = some u → (w.alloc (.cells #[x] t)).cell? ((⟨w.heap.size, 0, none⟩ : Addr).add j) = some u := by
  intro j u hj
  match j, hj with
  | 0, hj =>
    have ea : (⟨w.heap.size, 0, none⟩ : Addr).add 0 = ⟨w.heap.size, 0, none⟩ := by simp [Addr.add]
    rw [ea, World.cell?_alloc_mark]
    simpa using hj
theorem byte_one (x : Int) : ∀ u ∈ [Value.int .u8 x], u.oneCell' = true := by
  intro u hu
  simp only [List.mem_cons, List.not_mem_nil, or_false] at hu
  subst hu; rfl
theorem own_str {w : World} {B : Nat} {v : Value} {o : List Nat} (ho : AllB o) (h : w.ownsRow B 5 1 v o.length (bL o)) : (convert 36 9 v).run Try.prog w = .ok (.string (strL o)) w := by
  by_cases h0 : 0 < o.length
  · obtain ⟨g, cap, cur, rfl, _, _, hc⟩ := own_form1 h h0
    have key := run_convert_bytes_back (P := Try.prog) w 36 9 5 ⟨g, 0, none⟩ cap (o.map UInt8.ofNat) Try.underlying36 Try.underlying5 Try.underlying9 (fun j hj => by
      have hj' : j < o.length := by simpa using hj
      have ea : (⟨g, 0, none⟩ : Addr).add j = ⟨g, j, none⟩ := by
        unfold Addr.add
        by_cases h0 : j = 0
        · subst h0; simp
        · simp [h0]
      rw [ea, hc j _ (bL_at o j hj')]
      have hb := getD_byte ho j
      rw [List.getD_eq_getElem?_getD, List.getElem?_eq_getElem hj'] at hb ⊢
      simp only [Option.getD_some] at hb ⊢
      simp [UInt8.toNat_ofNat', Nat.mod_eq_of_lt hb])
    rw [List.length_map] at key
    exact key
  · have he : o = [] := by cases o with | nil => rfl | cons => simp at h0
    subst he
    obtain ⟨_, ⟨rfl, _⟩ | ⟨g, cap, cur, rfl, _⟩⟩ := h
    · exact run_convert_bytes_nil (P := Try.prog) w 36 5 Try.underlying36 Try.underlying5 0 0 9 Try.underlying9
    · exact run_convert_bytes_back (P := Try.prog) w 36 9 5 ⟨g, 0, none⟩ cap [] Try.underlying36 Try.underlying5 Try.underlying9 (fun j hj => by simp at hj)
end Go.Proofs.Ytbkjcngehhdchaa

/-!   A step of a region that draws its order, at the one operation that is ready. -/
namespace Go.Proofs.Ytbkjcngehhdchaa
open Go.RowKit
set_option linter.unusedVariables false

theorem held_step {P : Program} {md : Region.Mode} {ops : Array Oper} {Q : Exit → Act → World → Prop} {S : World → Prop} {i : Nat} {o : Oper} {fuel : Nat} {listed : Array Bool} {a : Act} {w : World}
    (hr : Region.ready md ops listed = [i]) (hi : ops[i]? = some o) (hw : Region.wanted o (yielded ops a.tmps) = true)
    (h : Oper.wp P o a w (fun a' w' => S w' ∧ wpAnyH P md ops Q S fuel (listed.setIfInBounds i true) a' w') Q) : wpAnyH P md ops Q S (fuel + 1) listed a w :=
  wpAnyH_all hr (by simp) (fun j hj => by
    have e : j = i := by simpa using hj
    subst e
    unfold wpOp
    simp only [hi, hw, if_true]
    exact Or.inl h)
end Go.Proofs.Ytbkjcngehhdchaa
