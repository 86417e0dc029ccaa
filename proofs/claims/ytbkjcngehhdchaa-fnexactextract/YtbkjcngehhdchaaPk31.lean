/-
  Several texts of this seat as one: Bl2, SoC, SrC.
-/
import Derived.Test.YtbkjcngehhdchaaPk30
import Derived.ArgAppend
import Derived.WalkKit
import Derived.Test.YtbkjcngehhdchaaPk21
import Derived.Test.YtbkjcngehhdchaaPk04
import Derived.Test.YtbkjcngehhdchaaPk01

/-!   Two builders side by side: what is written to one of them, or read of it, leaves the other as it was. -/
namespace Go.Proofs.Ytbkjcngehhdchaa
open Go.RowKit
set_option linter.unusedVariables false
theorem str_fr {P : Program} (w : World) (base : Nat) (t u ty e : TypeId) (i : TypeInfo) (ht : P.underlying t = some (.slice e)) (hu : P.underlying u = some .string) (hi : P.info? e = some i) (hz : i.zero = some (.int .u8 0))
    (hsize : i.size = 1) (hby : i.bytes = 1) (v : Value) (n : Nat) (xs : List Value) (hown : w.ownsRowF base e 1 v n xs) (s : ByteArray) (h63 : n + s.size ≤ maxLen) (hbytes : n + s.size ≤ 140737488355328) (hbase : base ≤ w.heap.size) :
    ∃ v' w', (Builtin.append_ #[t, u] ty #[v, .string s]).run P w = .ok v' w' ∧ w'.ownsRowF base e 1 v' (n + s.size) (xs ++ Lib.strCells s) ∧ w.grownBy w' v.ownBlock ∧ (v = .slice none 0 0 → s.size = 0 → v' = .slice none 0 0) ∧ ∀ g', v'.ownBlock = some g' → v.ownBlock = some g' ∨ w.heap.size ≤ g' := by
  obtain ⟨v', w', hr, h2, h3, h4⟩ := Lib.run_append_own_stringF (P := P) w base t u ty e i ht hu hi hz hsize hby v n xs hown s h63 hbytes hbase
  refine ⟨v', w', hr, h2, h3, fun q1 q2 => h4.2 ⟨q1, q2⟩, fun g' hg' => ?_⟩
  have hown0 := hown
  rcases hown.2 with ⟨rfl, rfl⟩ | ⟨g, cap, cur, fz, rfl, hbg, hg, hfz, hnc, hcm, hcs, htake⟩
  · obtain ⟨v2, w2, k1, k2, _, _⟩ := Lib.run_append_own_stringF (P := P) w w.heap.size t u ty e i ht hu hi hz hsize hby (.slice none 0 0) 0 xs ⟨hown.1, .inl ⟨rfl, rfl⟩⟩ s h63 hbytes (Nat.le_refl _)
    rw [hr] at k1
    injection k1 with e1 e2
    subst e1
    exact Or.inr (k2.lt g' hg').1
  · by_cases hroom : n + s.size ≤ cap
    · have hr2 := Lib.run_append_room_stringF (P := P) w t u ty e i ht hu hi hsize g n cap cur fz hg (by omega) s hroom (by omega)
      rw [hr] at hr2
      injection hr2 with e1 e2
      subst e1
      exact Or.inl hg'
    · have holds := hown0.cells (g := g) rfl
      have h64 : n + s.size ≤ 9223372036854775807 := h63
      have hr2 := Lib.run_append_grow_string (P := P) w t u ty e i (.int .u8 0) ht hu hi hz ⟨g, 0, none⟩ n cap xs (by rw [hsize]; exact hown0.1) holds s (by omega) (by omega) (by rw [hby]; exact growslice_fits (by omega) (by omega))
      rw [hr] at hr2
      injection hr2 with e1 e2
      subst e1
      simp [Value.ownBlock] at hg'
      exact Or.inr (by omega)
theorem wp_str_fr {P : Program} {w : World} {ops : Array Oper} {rest : List Oper} {o : Oper} {a : Act} {Q : Exit → Act → World → Prop} (hgd : o.guard = none) (sl x : Operand) (t u : TypeId)
    (ho : o.op = .call { callee := .builtin .append, args := #[sl, x], argTypes := #[t, u] })
    (base : Nat) (e : TypeId) (i : TypeInfo) (ht : P.underlying t = some (.slice e)) (hu : P.underlying u = some .string) (hi : P.info? e = some i) (hz : i.zero = some (.int .u8 0))
    (hsize : i.size = 1) (hby : i.bytes = 1)
    (v : Value) (n : Nat) (xs : List Value) (hs : a.eval sl = v) (hown : w.ownsRowF base e 1 v n xs) (s : ByteArray) (hx : a.eval x = .string s)
    (h63 : n + s.size ≤ maxLen) (hbytes : n + s.size ≤ 140737488355328) (hbase : base ≤ w.heap.size)
    (h : ∀ v' w', w'.ownsRowF base e 1 v' (n + s.size) (xs ++ Lib.strCells s) → w.grownBy w' v.ownBlock → (v = .slice none 0 0 → s.size = 0 → v' = .slice none 0 0) → (∀ g', v'.ownBlock = some g' → v.ownBlock = some g' ∨ w.heap.size ≤ g') → wpList P ops Q rest (a.put o.dst v') w') : wpList P ops Q (o :: rest) a w := by
  refine wpList_plain hgd fun K hK => ?_
  obtain ⟨v', w', hr, h2, h3, h4, h5⟩ := str_fr (P := P) w base t u o.type e i ht hu hi hz hsize hby v n xs hown s h63 hbytes hbase
  unfold Oper.wp execOp
  simp only [ho, resolve, invoke, builtin, Sem.run_bind, Sem.run_pure, Result.andThen_ok, List.map_toArray, List.map_cons, List.map_nil, hs, hx, hr]
  exact hK _ _ (h v' w' h2 h3 h4 h5)
theorem ba_zero {d : ByteArray} (h : d.size = 0) : d = ByteArray.empty := by
  have e : d.data.size = 0 := h
  cases d; simp at e; subst e; rfl
/-- a builder's own pointer -/
def BP (b : Nat) (p : Value) : Prop := p = .pointer none ∨ p = .pointer (some ⟨b, 0, none⟩)
/-- a builder whose bytes lie in the row v -/
structure BAt (B b : Nat) (p v : Value) (s : ByteArray) (w : World) : Prop where
  le : B ≤ b
  at_ : w.heap[b]? = some (.cells #[p, v] 55 (0, 0))
  own : w.ownsRowF B 5 1 v (Lib.strCells s).length (Lib.strCells s)
  nil : s.size = 0 → v = .slice none 0 0
theorem BAt.lt {B b : Nat} {p v : Value} {s : ByteArray} {w : World} (h : BAt B b p v s w) : b < w.heap.size := (Array.getElem?_eq_some_iff.1 h.at_).1
theorem BAt.ne {B b : Nat} {p v : Value} {s : ByteArray} {w : World} (h : BAt B b p v s w) {b' : Nat} {cs : Array Value} {fr : Nat × Nat} (hb : w.heap[b']? = some (.cells cs 55 fr)) : v.ownBlock ≠ some b' := Lib.ownBlock_neF h.own hb (by decide)
theorem BAt.row {B b : Nat} {p v : Value} {s : ByteArray} {w : World} (h : BAt B b p v s w) {g : Nat} (hg : v.ownBlock = some g) : g < w.heap.size := (h.own.lt g hg).2
theorem BAt.same {B b : Nat} {p v : Value} {s : ByteArray} {w w' : World} (h : BAt B b p v s w) (h1 : w'.heap[b]? = w.heap[b]?) (h2 : ∀ g, v.ownBlock = some g → w'.heap[g]? = w.heap[g]?) : BAt B b p v s w' := by
  refine ⟨h.le, h1.trans h.at_, ⟨h.own.1, ?_⟩, h.nil⟩
  rcases h.own.2 with hn | ⟨g, cap, cur, fz, rfl, hb, hgg, rest⟩
  · exact Or.inl hn
  · exact Or.inr ⟨g, cap, cur, fz, rfl, hb, (h2 g rfl).trans hgg, rest⟩
/-- which blocks a write to a builder leaves -/
def KeepV (b : Nat) (v : Value) (w w' : World) : Prop := ∀ k, k < w.heap.size → k ≠ b → v.ownBlock ≠ some k → w'.heap[k]? = w.heap[k]?
set_option maxRecDepth 100000 in
set_option maxHeartbeats 2000000 in
theorem bat_check (B b : Nat) (p v : Value) (a : ByteArray) (w : World) (hp : BP b p) (h : BAt B b p v a w) :
    Calls Try.prog 54 #[.pointer (some ⟨b, 0, none⟩)] w fun e w' => e = .returned (.tuple #[]) ∧ BAt B b (.pointer (some ⟨b, 0, none⟩)) v a w' ∧ w'.heap.size = w.heap.size ∧ Below B w w' ∧ KeepV b v w w' := by
  have c0 : w.cell? ⟨b, 0, none⟩ = some p := by rw [Lib.cell_of_heap h.at_]; rfl
  rcases hp with rfl | rfl
  · refine (Go.Proofs.Any.Builder_copyCheck_fresh { Go.Proofs.Try.lays166 with } Go.Proofs.Try.Builder_Extra_166.toX72 b w c0 (by simp [World.shape?, h.at_]; rfl) (Lib.frozen_of_heap h.at_ 0)).mono ?_
    rintro e w' ⟨rfl, rfl⟩
    have hk : ∀ k, k ≠ b → (w.setCell ⟨b, 0, none⟩ (.pointer (some ⟨b, 0, none⟩))).heap[k]? = w.heap[k]? := fun k hk => Below.heap_setCell _ _ _ _ (fun e => hk (by simp [e]))
    refine ⟨rfl, ⟨h.le, by simp [World.setCell, Array.getElem?_modify, h.at_], ?_, h.nil⟩, by simp [World.setCell], (Below.refl B w).setCell (p := ⟨b, 0, none⟩) h.le _, fun k _ hkb _ => hk k hkb⟩
    exact h.own.kept (row := some b) ⟨rfl, rfl, rfl, by simp [World.setCell], fun k _ hk2 => hk k (fun e => hk2 (by rw [e]))⟩ (Or.inr (h.ne h.at_))
  · refine (Go.Proofs.Any.Builder_copyCheck_used { Go.Proofs.Try.lays166 with } Go.Proofs.Try.Builder_Extra_166.toX72 b w c0).mono ?_
    rintro e w' ⟨rfl, rfl⟩
    exact ⟨rfl, h, rfl, Below.refl B _, fun _ _ _ _ => rfl⟩
set_option maxRecDepth 100000 in
set_option maxHeartbeats 2000000 in
theorem bat_add (B b : Nat) (p v : Value) (a s : ByteArray) (w : World) (hp : BP b p) (h : BAt B b p v a w) (hlen : a.size + s.size ≤ 140737488355328) (hBw : B ≤ w.heap.size) :
    Calls Try.prog 32 #[.pointer (some ⟨b, 0, none⟩), .string s] w fun e w' => e = .returned (.tuple #[.int .i64 s.size, .nilIface]) ∧ Below B w w' ∧ KeepV b v w w' ∧
      ∃ v', BAt B b (.pointer (some ⟨b, 0, none⟩)) v' (a ++ s) w' ∧ ∀ g, v'.ownBlock = some g → v.ownBlock = some g ∨ w.heap.size ≤ g := by
  obtain ⟨i0, hi, hz0, hz1, hz2⟩ := info_parts Go.Proofs.Try.Builder_Extra_166.infoByte
  have HC : Hid (Calls Try.prog 54 #[.pointer (some ⟨b, 0, none⟩)] w fun e w' => e = .returned (.tuple #[]) ∧ BAt B b (.pointer (some ⟨b, 0, none⟩)) v a w' ∧ w'.heap.size = w.heap.size ∧ Below B w w' ∧ KeepV b v w w') := bat_check B b p v a w hp h
  clear h
  go_enter Try.func32, Try.ntmps32
  go_wp2_with fail
  refine HC.out.mono ?_
  rintro e w1 ⟨rfl, h1, hsz, hb1, hk1⟩
  have hbk := h1.at_
  have c0 : w1.cell? ⟨b, 0, none⟩ = some (.pointer (some ⟨b, 0, none⟩)) := by rw [Lib.cell_of_heap hbk]; rfl
  have c1 : w1.cell? ⟨b, 1, none⟩ = some v := by rw [Lib.cell_of_heap hbk]; rfl
  have HB : Hid (BAt B b (.pointer (some ⟨b, 0, none⟩)) v a w1) := h1
  have HSZ : Hid (w1.heap.size = w.heap.size) := hsz
  have HL : Hid (a.size + s.size ≤ 140737488355328) := hlen
  clear h1 hsz hbk
  go_wp2_with (at_builtin; refine wp_str_fr rfl _ _ 36 9 rfl B 5 i0 Try.underlying36 Try.underlying9 hi hz0 hz1 hz2 v _ _ rfl HB.out.own s rfl ?c3 ?c4 ?c5 ?_)
  case c3 => have := HL.out; rw [Lib.strCells_length]; unfold maxLen; omega
  case c4 => have := HL.out; rw [Lib.strCells_length]; omega
  case c5 => have := hb1.size; omega
  intro v' w2 hown' hgrow hnil hnew
  have hb2 : w2.heap[b]? = some (.cells #[.pointer (some ⟨b, 0, none⟩), v] 55 (0, 0)) := by
    rw [hgrow.block b HB.out.lt (fun e => HB.out.ne HB.out.at_ e.symm)]
    exact HB.out.at_
  have d0 : w2.cell? ⟨b, 0, none⟩ = some (.pointer (some ⟨b, 0, none⟩)) := by rw [Lib.cell_of_heap hb2]; rfl
  have d1 : w2.cell? ⟨b, 1, none⟩ = some v := by rw [Lib.cell_of_heap hb2]; rfl
  have f1 : w2.frozen? ⟨b, 1, none⟩ = false := Lib.frozen_of_heap hb2 1
  obtain ⟨ao, n', cap, hv'⟩ : ∃ ao n' cap, v' = .slice ao n' cap := by
    rcases hown'.2 with ⟨hv, _⟩ | ⟨g, cap, cur, fz, hv, _⟩
    · exact ⟨_, _, _, hv⟩
    · exact ⟨_, _, _, hv⟩
  have hne' : v'.ownBlock ≠ some b := Lib.ownBlock_neF hown' hb2 (by decide)
  have hk : ∀ k, k ≠ b → (w2.setCell ⟨b, 1, none⟩ v').heap[k]? = w2.heap[k]? := fun k hk => Below.heap_setCell _ _ _ _ (fun e => hk (by simp [e]))
  have hnl : (a ++ s).size = 0 → v' = .slice none 0 0 := fun hz => by
    have h2 : a.size + s.size = 0 := by rw [← ByteArray.size_append]; exact hz
    have h3 : a.size = 0 := by clear hv'; omega
    have h4 : s.size = 0 := by clear hv'; omega
    exact hnil (HB.out.nil h3) (by first | exact h4 | exact ba_zero h4)
  have HQ : Hid (Below B w (w2.setCell ⟨b, 1, none⟩ v') ∧ KeepV b v w (w2.setCell ⟨b, 1, none⟩ v') ∧ BAt B b (.pointer (some ⟨b, 0, none⟩)) v' (a ++ s) (w2.setCell ⟨b, 1, none⟩ v') ∧ ∀ g, v'.ownBlock = some g → v.ownBlock = some g ∨ w.heap.size ≤ g) := by
    refine ⟨(hb1.grown hgrow (by have := hb1.size; omega) (fun k hk => (HB.out.own.lt k hk).1)).setCell (p := ⟨b, 1, none⟩) HB.out.le _, fun k hks hkb hkv => ?_, ⟨HB.out.le, by simp [World.setCell, Array.getElem?_modify, hb2], ?_, hnl⟩, fun g hg => ?_⟩
    · rw [hk k hkb, hgrow.block k (by rw [HSZ.out]; exact hks) (fun e => hkv e.symm)]
      exact hk1 k hks hkb hkv
    · rw [strCells_appendK]
      have h3 : w2.ownsRowF B 5 1 v' (Lib.strCells a ++ Lib.strCells s).length (Lib.strCells a ++ Lib.strCells s) := by
        rw [List.length_append, Lib.strCells_length s]; exact hown'
      exact h3.kept (row := some b) ⟨rfl, rfl, rfl, by simp [World.setCell], fun k _ hk2 => hk k (fun e => hk2 (by rw [e]))⟩ (Or.inr hne')
    · rcases hnew g hg with h | h
      · exact Or.inl h
      · exact Or.inr (by rw [← HSZ.out]; exact h)
  clear hown' hgrow hnil hnl hnew hne' hk hb2
  subst hv'
  go_wp2_with fail
  go_ret2
  exact ⟨rfl, HQ.out.1, HQ.out.2.1, _, HQ.out.2.2⟩
set_option maxRecDepth 100000 in
set_option maxHeartbeats 2000000 in
theorem bat_tell (B b : Nat) (p v : Value) (s : ByteArray) (w : World) (h : BAt B b p v s w) :
    Calls Try.prog 36 #[.pointer (some ⟨b, 0, none⟩)] w fun e w' => e = .returned (.string s) ∧ Below B w w' ∧ KeepV b v w w' ∧ BAt B b p v s w' := by
  by_cases h0 : s.size = 0
  · have hv := h.nil h0
    subst hv
    have hs : s = ⟨#[]⟩ := by
      have e : s.data.size = 0 := h0
      cases s; simp at e; subst e; rfl
    subst hs
    have mixed : Try.prog.follows .mixedOrders = true := by kernel_rfl
    have hUS : (Builtin.unsafeString_ #[85, 3] 9 #[.pointer none, .int .i64 0]).run Try.prog w.drew = .ok (.string ⟨#[]⟩) w.drew := Any.unsafeString_none Go.Proofs.Try.lays169 Go.Proofs.Try.Builder_Extra_169 _ _
    have c1 : w.drew.cell? ⟨b, 1, none⟩ = some (.slice none 0 0) := by
      have : w.drew.heap[b]? = some (.cells #[p, .slice none 0 0] 55 (0, 0)) := h.at_
      rw [Lib.cell_of_heap this]; rfl
    have hSD : (Builtin.unsafeSliceData_ #[36] 85 #[.slice none 0 0]).run Try.prog w.drew = .ok (.pointer none) w.drew := rfl
    have HQ : Hid (Below B w w.drew ∧ KeepV b (.slice none 0 0) w w.drew ∧ BAt B b p (.slice none 0 0) ⟨#[]⟩ w.drew) := ⟨Below.drew (Below.refl B w), fun _ _ _ _ => rfl, h.le, h.at_, h.own, fun _ => rfl⟩
    clear h h0
    go_enter Try.func36, Try.ntmps36
    go_wp2_with fail
    go_region_o
    all_goals (go_wp2_with fail; go_ret; try exact ⟨rfl, HQ.out⟩)
  · obtain ⟨l, hl⟩ : ∃ l : List UInt8, l = s.data.toList := ⟨_, rfl⟩
    have hsl : s = ⟨l.toArray⟩ := by rw [hl]
    have HSL : Hid (s = ⟨l.toArray⟩) := hsl
    have mixed : Try.prog.follows .mixedOrders = true := by kernel_rfl
    have hcells : Lib.strCells s = Lib.byteCells l := by rw [Lib.strCells_eq, hl]
    have hll : l.length = s.size := by rw [hl]; show s.data.toList.length = s.data.size; simp
    have hl0 : l ≠ [] := fun e => h0 (by rw [← hll, e]; rfl)
    have hown := h.own
    rw [hcells, Lib.byteCells_length] at hown
    obtain ⟨g, cap, cur, fz, rfl, hbg, hg, hfz, hnc, hcm, hcs, htake⟩ : ∃ g cap cur fz, v = .slice (some ⟨g, 0, none⟩) l.length cap ∧ B ≤ g ∧ w.heap[g]? = some (.cells cur 5 fz) ∧ fz.2 ≤ l.length * 1 ∧ l.length ≤ cap ∧ cap ≤ maxLen ∧ cur.size = cap * 1 ∧ cur.toList.take (l.length * 1) = Lib.byteCells l := by
      rcases hown.2 with ⟨_, hz⟩ | ⟨g, cap, cur, fz, hv, r⟩
      · omega
      · exact ⟨g, cap, cur, fz, hv, r⟩
    have hne : g ≠ b := fun e => h.ne h.at_ (by simp [Value.ownBlock, e])
    have c1 : w.drew.cell? ⟨b, 1, none⟩ = some (.slice (some ⟨g, 0, none⟩) l.length cap) := by
      have : w.drew.heap[b]? = some (.cells #[p, .slice (some ⟨g, 0, none⟩) l.length cap] 55 (0, 0)) := h.at_
      rw [Lib.cell_of_heap this]; rfl
    have hSD : (Builtin.unsafeSliceData_ #[36] 85 #[.slice (some ⟨g, 0, none⟩) l.length cap]).run Try.prog w.drew = .ok (.pointer (some ⟨g, 0, none⟩)) w.drew :=
      Lib.run_unsafeSliceData_row _ _ _ _ _ _ (by omega)
    have hUS : (Builtin.unsafeString_ #[85, 3] 9 #[.pointer (some ⟨g, 0, none⟩), .int .i64 l.length]).run Try.prog w.drew = .ok (.string ⟨l.toArray⟩) (w.drew.freeze ⟨g, 0, none⟩ l.length) := by
      refine Lib.run_unsafeString_row w.drew 85 3 9 5 Try.underlying85 Go.Proofs.Try.Builder_Extra_169.cellsByte g cur.size (by have hg' : w.drew.heap[g]? = some (.cells cur 5 fz) := hg; simp [World.shape?, hg']) l hl0 (by omega) (by unfold maxLen at hcm; omega) ?_
      intro j x hx
      exact hown.cells (g := g) rfl j (.int .u8 x.toNat) (by simp [Lib.byteCells, hx])
    have hfr : ∀ k, k ≠ g → (w.drew.freeze ⟨g, 0, none⟩ l.length).heap[k]? = w.heap[k]? := fun k hk => by
      unfold World.freeze
      split
      · rfl
      · simp only [Array.getElem?_modify]
        rw [if_neg (fun e => hk e.symm)]
        rfl
    have hA : Lib.BuilderAtF 55 5 B b p (Lib.byteCells l) w.drew := ⟨h.le, _, h.at_, by rw [Lib.byteCells_length]; exact hown, h.ne h.at_⟩
    have hF := hA.froze (g := g) (cap := cap) (by rw [Lib.byteCells_length]; exact c1)
    rw [Lib.byteCells_length] at hF
    have HQ : Hid (Below B w (w.drew.freeze ⟨g, 0, none⟩ l.length) ∧ KeepV b (.slice (some ⟨g, 0, none⟩) l.length cap) w (w.drew.freeze ⟨g, 0, none⟩ l.length) ∧ BAt B b p (.slice (some ⟨g, 0, none⟩) l.length cap) s (w.drew.freeze ⟨g, 0, none⟩ l.length)) := by
      refine ⟨Lib.below_freeze (Below.drew (Below.refl B w)) (p := ⟨g, 0, none⟩) hbg _, fun k _ _ hkv => hfr k (fun e => hkv (by simp [Value.ownBlock, e])), h.le, (hfr b (fun e => hne e.symm)).trans h.at_, ?_, fun e => absurd e h0⟩
      obtain ⟨_, v2, hb2, hown2, _⟩ := hF
      rw [(hfr b (fun e => hne e.symm)).trans h.at_] at hb2
      have e2 : v2 = .slice (some ⟨g, 0, none⟩) l.length cap := by
        injection hb2 with q
        injection q with q1
        have q2 : (#[p, .slice (some ⟨g, 0, none⟩) l.length cap] : Array Value)[1]? = (#[p, v2] : Array Value)[1]? := by rw [q1]
        simpa using q2.symm
      rw [e2] at hown2
      rw [hcells]
      exact hown2
    clear hF hA hfr h hown hg htake hcs hcm hfz hl hcells hll hl0 h0
    rw [hsl] at HQ ⊢
    clear hsl HSL
    go_enter Try.func36, Try.ntmps36
    go_wp2_with fail
    go_region_o
    all_goals (go_wp2_with fail; go_ret; try exact ⟨rfl, HQ.out⟩)
/-- two builders side by side -/
def Two (B b1 b2 : Nat) (s1 s2 : ByteArray) (w : World) : Prop := b1 ≠ b2 ∧ ∃ p1 v1 p2 v2, BP b1 p1 ∧ BP b2 p2 ∧ BAt B b1 p1 v1 s1 w ∧ BAt B b2 p2 v2 s2 w ∧ ∀ g, v1.ownBlock = some g → v2.ownBlock ≠ some g
theorem Two.swap {B b1 b2 : Nat} {s1 s2 : ByteArray} {w : World} (h : Two B b1 b2 s1 s2 w) : Two B b2 b1 s2 s1 w := by
  obtain ⟨h0, p1, v1, p2, v2, h1, h2, h3, h4, h5⟩ := h
  exact ⟨h0.symm, p2, v2, p1, v1, h2, h1, h4, h3, fun g k e => h5 g e k⟩
theorem Two.call {B b1 b2 : Nat} {s1 s2 : ByteArray} {w w' : World} (h : Two B b1 b2 s1 s2 w) (hb : Below w.heap.size w w') : Two B b1 b2 s1 s2 w' := by
  obtain ⟨h0, p1, v1, p2, v2, h1, h2, h3, h4, h5⟩ := h
  exact ⟨h0, p1, v1, p2, v2, h1, h2, h3.same (hb.block _ h3.lt) (fun g hg => hb.block _ (h3.row hg)), h4.same (hb.block _ h4.lt) (fun g hg => hb.block _ (h4.row hg)), h5⟩
theorem Two.lt {B b1 b2 : Nat} {s1 s2 : ByteArray} {w : World} (h : Two B b1 b2 s1 s2 w) : b1 < w.heap.size ∧ b2 < w.heap.size ∧ B ≤ b1 ∧ B ≤ b2 := by
  obtain ⟨h0, p1, v1, p2, v2, h1, h2, h3, h4, h5⟩ := h
  exact ⟨h3.lt, h4.lt, h3.le, h4.le⟩
theorem two_new (w : World) : Two w.heap.size w.heap.size (w.heap.size + 1) ⟨#[]⟩ ⟨#[]⟩ ((w.alloc (.cells #[.pointer none, .slice none 0 0] 55)).alloc (.cells #[.pointer none, .slice none 0 0] 55)) := by
  have e : ∀ w' : World, w'.ownsRowF w.heap.size 5 1 (.slice none 0 0) (Lib.strCells ⟨#[]⟩).length (Lib.strCells ⟨#[]⟩) := fun w' => ⟨rfl, Or.inl ⟨rfl, rfl⟩⟩
  refine ⟨by omega, .pointer none, .slice none 0 0, .pointer none, .slice none 0 0, Or.inl rfl, Or.inl rfl, ⟨Nat.le_refl _, ?_, e _, fun _ => rfl⟩, ⟨by omega, ?_, e _, fun _ => rfl⟩, fun g hg => by simp [Value.ownBlock] at hg⟩
  · rw [Below.heap_alloc _ _ _ (by simp)]
    exact heap_alloc_new w _
  · have h := heap_alloc_new (w.alloc (.cells #[.pointer none, .slice none 0 0] 55)) (.cells #[.pointer none, .slice none 0 0] 55)
    simpa using h
theorem two_after {B b1 b2 : Nat} {s1 s2 t : ByteArray} {p1 v1 p2 v2 p1' v1' : Value} {w w' : World} (h0 : b1 ≠ b2) (h2 : BP b2 p2) (h3 : BAt B b1 p1 v1 s1 w) (h4 : BAt B b2 p2 v2 s2 w) (h5 : ∀ g, v1.ownBlock = some g → v2.ownBlock ≠ some g) (hk : KeepV b1 v1 w w') (hp : BP b1 p1') (hA : BAt B b1 p1' v1' t w') (hn : ∀ g, v1'.ownBlock = some g → v1.ownBlock = some g ∨ w.heap.size ≤ g) : Two B b1 b2 t s2 w' := by
  refine ⟨h0, p1', v1', p2, v2, hp, h2, hA, h4.same (hk _ h4.lt h0.symm (h3.ne h4.at_)) (fun g hg => hk g (h4.row hg) (fun e => h4.ne h3.at_ (by rw [hg, e])) (fun e => h5 g e hg)), fun g hg hg2 => ?_⟩
  rcases hn g hg with h | h
  · exact h5 g h hg2
  · have := h4.row hg2; omega
theorem two_add (B b1 b2 : Nat) (a s t : ByteArray) (w : World) (h : Two B b1 b2 a t w) (hlen : a.size + s.size ≤ 140737488355328) :
    Calls Try.prog 32 #[.pointer (some ⟨b1, 0, none⟩), .string s] w fun e w' => e = .returned (.tuple #[.int .i64 s.size, .nilIface]) ∧ Two B b1 b2 (a ++ s) t w' ∧ Below B w w' ∧ KeepB b1 w w' := by
  have hlt := h.lt
  obtain ⟨h0, p1, v1, p2, v2, h1, h2, h3, h4, h5⟩ := h
  refine (bat_add B b1 p1 v1 a s w h1 h3 hlen (by omega)).mono ?_
  rintro e w' ⟨rfl, hb, hk, v', hA, hn⟩
  refine ⟨rfl, two_after h0 h2 h3 h4 h5 hk (Or.inr rfl) hA hn, hb, fun k cs ty m q1 q2 q3 => (hk k (Array.getElem?_eq_some_iff.1 q1).1 q2 (fun e => ?_)).trans q1⟩
  obtain ⟨c, fz, hc⟩ := Lib.ownsRowF_kind h3.own k e
  rw [q1] at hc
  injection hc with hc
  injection hc with c1 c2 c3
  exact q3 c2
theorem two_tell (B b1 b2 : Nat) (a t : ByteArray) (w : World) (h : Two B b1 b2 a t w) :
    Calls Try.prog 36 #[.pointer (some ⟨b1, 0, none⟩)] w fun e w' => e = .returned (.string a) ∧ Two B b1 b2 a t w' ∧ Below B w w' := by
  obtain ⟨h0, p1, v1, p2, v2, h1, h2, h3, h4, h5⟩ := h
  refine (bat_tell B b1 p1 v1 a w h3).mono ?_
  rintro e w' ⟨rfl, hb, hk, hA⟩
  exact ⟨rfl, two_after h0 h2 h3 h4 h5 hk h1 hA (fun g hg => Or.inl hg), hb⟩
end Go.Proofs.Ytbkjcngehhdchaa

/-!   The block of members: the code's. -/
namespace Go.Proofs.Ytbkjcngehhdchaa
open Go.RowKit
set_option linter.unusedVariables false
set_option linter.unusedSimpArgs false
theorem row_ltM {w : World} {g : Nat} {X : Obj} (h : w.heap[g]? = some X) : g < w.heap.size := (Array.getElem?_eq_some_iff.1 h).1
set_option maxRecDepth 100000 in
set_option maxHeartbeats 4000000 in
theorem so_yes (a : Option Addr) (c n : Nat) (F : Nat → MbI) (w : World) (hF : MbLe F n) (hok : mbR F n) (hr : 0 < n → ∃ g, a = some ⟨g, 0, none⟩ ∧ MbRow w g n F) :
    Calls Try.prog 11 #[.slice a n c] w fun e w' => e = .returned (.tuple #[.string (soV F n), .bool true]) ∧ Below w.heap.size w w' := by
  have hnI : (n : Int) ≤ 60 := by have := hok.1; omega
  have hwn : IntKind.u64.wrap (n : Int) = (n : Int) := by rw [IntKind.wrap_u64]; omega
  have HK : Hid (∀ w, MbArg w (.slice a n c) n F → Calls Try.prog 21 #[.slice a n c] w fun e w' => e = .returned (.bool true) ∧ Below w.heap.size w w') := fun w h => by
    have h2 := mbs_any (.slice a n c) n F w hF h
    rw [mbB_yes hok] at h2
    exact h2
  have HP : Hid (∀ (m : Nat) w, m < 18446744073709551616 → Calls Try.prog 33 #[.int .u64 (m : Int)] w fun e w' => e = .returned (.string (pmB m)) ∧ Below w.heap.size w w') := fun m w h => cput_any m w h
  have HPT : Hid (∀ (s : ByteArray) w, s.size ≤ 1100000 → Calls Try.prog 34 #[.string s] w fun e w' => e = .returned (.string (putTextOut s)) ∧ Below w.heap.size w w') := fun s w h => cputText_any s w (by omega)
  have HPK : Hid (∀ (s : ByteArray) w, s.size ≤ 4000 → Calls Try.prog 35 #[.string s] w fun e w' => e = .returned (.tuple #[.string (pckB s), .bool true]) ∧ Below w.heap.size w w') := fun s w h => pack_yes s w h
  have HCR : Hid (∀ (s : ByteArray) w, s.size ≤ 4000 → Calls Try.prog 37 #[.string s] w fun e w' => e = .returned (.string (sumB s)) ∧ Below w.heap.size w w') := fun s w h => crcOf_any s w (by unfold maxLen; omega)
  have HR : Hid (∀ w', Below w.heap.size w w' → 0 < n → ∃ g, a = some ⟨g, 0, none⟩ ∧ MbRow w' g n F) := fun w' hb h0 => by
    obtain ⟨g, h1, h2⟩ := hr h0
    exact ⟨g, h1, h2.below hb h2.lt⟩
  have HA : Hid (MbArg w (.slice a n c) n F) := ⟨a, c, rfl, hr⟩
  have HO : Hid (mbR F n ∧ ∀ i, i < n → (F i).d.size ≤ 1100000) := ⟨hok, fun i hi => (hF.n hi).2⟩
  have hpn := pmB_size (n := n) (by omega)
  clear hr hok hF
  go_enter Try.func11, Try.ntmps11
  go_wp2_with fail
  refine (HK.out _ HA.out).mono ?_
  rintro e w1 ⟨rfl, hb1⟩
  have HB1 : Hid (Below w.heap.size w w1) := hb1
  have HBL : Hid (Two w1.heap.size w1.heap.size (w1.heap.size + 1) ⟨#[]⟩ ⟨#[]⟩ ((w1.alloc (.cells #[.pointer none, .slice none 0 0] 55)).alloc (.cells #[.pointer none, .slice none 0 0] 55))) := two_new w1
  have HB2 : Hid (Below w.heap.size w ((w1.alloc (.cells #[.pointer none, .slice none 0 0] 55)).alloc (.cells #[.pointer none, .slice none 0 0] 55))) := (hb1.alloc hb1.size _).alloc (by have := hb1.size; simp; omega) _
  clear hb1 HA HK
  go_wp2_with fail
  refine (HP.out n _ (by omega)).mono ?_
  rintro e w2 ⟨rfl, hb2⟩
  have HBL2 : Hid (Two w1.heap.size w1.heap.size (w1.heap.size + 1) ⟨#[]⟩ ⟨#[]⟩ w2) := HBL.out.call hb2
  have HB3 : Hid (Below w.heap.size w w2) := blMb HB2.out hb2 HB2.out.size
  clear hb2 HBL HB2
  go_wp2_with fail
  refine (two_add w1.heap.size w1.heap.size (w1.heap.size + 1) ⟨#[]⟩ (pmB n) ⟨#[]⟩ _ HBL2.out (by show 0 + _ ≤ _; omega)).mono ?_
  rintro e w3 ⟨rfl, hbl3, hb3, _⟩
  have e0 : (⟨#[]⟩ : ByteArray) ++ pmB n = soB F n 0 := by show ByteArray.empty ++ pmB n = pmB n; rw [ByteArray.empty_append]
  rw [e0] at hbl3
  have HBL3 : Hid (Two w1.heap.size w1.heap.size (w1.heap.size + 1) (soB F n 0) (alB F 0) w3) := hbl3
  have HB4 : Hid (Below w.heap.size w w3) := HB3.out.trans (hb3.mono HB1.out.size)
  clear hb3 hbl3 e0 HBL2 HB3
  go_wp2_with fail
  go_loopw [20] (fun v wr => ∃ (i : Nat), i ≤ n ∧ v = .int .i64 (i : Int) ∧ Hid (Two w1.heap.size w1.heap.size (w1.heap.size + 1) (soB F n i) (alB F i) wr) ∧ Hid (Below w.heap.size w wr)) (fun v _ => n - (intMb v).toNat)
  case atStart => exact ⟨0, by omega, rfl, HBL3, HB4⟩
  case round =>
    clear HBL3 HB4
    obtain ⟨i, hi, rfl, HBL, HB⟩ := hrel
    by_cases hlt : i < n
    · have hltI : (i : Int) < (n : Int) := by omega
      obtain ⟨g, rfl, hrow⟩ := HR.out _ HB.out (by omega)
      obtain ⟨q, hq⟩ : ∃ q, q = 2 * i := ⟨_, rfl⟩
      have x0 := hrow.c0 i hlt
      have x1 := hrow.c1 i hlt
      rw [← hq] at x0 x1
      have hiq : i * 2 = q := by omega
      have hp := HO.out.1.2.1 i hlt
      have hdi := HO.out.2 i hlt
      have hle := soB_size (F := F) (n := n) (by omega) HO.out.1.2.1 HO.out.2 i (by omega)
      have hle2 : (soB F n i).size ≤ 1000000 := by omega
      have hal : (alB F i).size ≤ 4000 := by rw [alB_size]; have h1 := mbSum_mono F (i := i) (n := n) (by omega); have h2 := HO.out.1.2.2.1; omega
      have HN : Hid (soB F n (i + 1) = (soB F n i ++ putTextOut (F i).a) ++ pmB (F i).d.size) := rfl
      have HL : Hid (alB F (i + 1) = alB F i ++ (F i).d) := rfl
      have HB0 : Hid (Below w.heap.size w (wr.alloc (.cells #[.string (F i).a, .string (F i).d] 41))) := HB.out.alloc HB.out.size _
      have HBL0 : Hid (Two w1.heap.size w1.heap.size (w1.heap.size + 1) (soB F n i) (alB F i) (wr.alloc (.cells #[.string (F i).a, .string (F i).d] 41))) := HBL.out.call ((Below.refl _ _).alloc (Nat.le_refl _) _)
      obtain ⟨hg1, hg2, _, _⟩ := HBL.out.lt
      clear hrow hq HBL HB hle
      generalize F i = p at x0 x1 hp HN HL hdi HB0 HBL0
      generalize soB F n i = acc at hle2 HN HBL0
      generalize alB F i = al at hal HL HBL0
      obtain ⟨pa, d⟩ := p
      simp only at x0 x1 hdi HN HL HB0 HBL0
      have hpa : pa.size ≤ 120 := hp.2
      have htx := pmT_size (s := pa) (by omega)
      have hpd := pmB_size (n := d.size) (by omega)
      have hwd : IntKind.u64.wrap (d.size : Int) = (d.size : Int) := by rw [IntKind.wrap_u64]; omega
      clear hp
      go_wp2_with fail
      refine (HPT.out pa _ (by omega)).mono ?_
      rintro e w4 ⟨rfl, hb4⟩
      have hr4 : Hid (w4.heap[wr.heap.size]? = some (.cells #[.string pa, .string d] 41 (0, 0))) := (hb4.block _ (by simp)).trans (heap_alloc_new wr _)
      have HBL4 : Hid (Two w1.heap.size w1.heap.size (w1.heap.size + 1) acc al w4) := HBL0.out.call hb4
      have HB4 : Hid (Below w.heap.size w w4) := blMb HB0.out hb4 HB0.out.size
      clear hb4 HBL0 HB0 x0 x1
      go_wp2_with fail
      refine (two_add w1.heap.size w1.heap.size (w1.heap.size + 1) acc (putTextOut pa) al _ HBL4.out (by omega)).mono ?_
      rintro e w5 ⟨rfl, hbl5, hb5, hk5⟩
      have hr5 : Hid (w5.heap[wr.heap.size]? = some (.cells #[.string pa, .string d] 41 (0, 0))) := hk5 _ _ _ _ hr4.out (by omega) (by decide)
      have HBL5 : Hid (Two w1.heap.size w1.heap.size (w1.heap.size + 1) (acc ++ putTextOut pa) al w5) := hbl5
      have HB5 : Hid (Below w.heap.size w w5) := HB4.out.trans (hb5.mono HB1.out.size)
      have b50 : w5.cell? ⟨wr.heap.size, 0, none⟩ = some (.string pa) := cell_of_row _ _ _ _ _ _ hr5.out
      have b51 : w5.cell? ⟨wr.heap.size, 1, none⟩ = some (.string d) := cell_of_row _ _ _ _ _ _ hr5.out
      clear hb5 hbl5 hk5 HBL4 HB4 hr4
      go_wp2_with fail
      refine (HP.out d.size _ (by omega)).mono ?_
      rintro e w6 ⟨rfl, hb6⟩
      have hr6 : Hid (w6.heap[wr.heap.size]? = some (.cells #[.string pa, .string d] 41 (0, 0))) := (hb6.block _ (row_ltM hr5.out)).trans hr5.out
      have HBL6 : Hid (Two w1.heap.size w1.heap.size (w1.heap.size + 1) (acc ++ putTextOut pa) al w6) := HBL5.out.call hb6
      have HB6 : Hid (Below w.heap.size w w6) := blMb HB5.out hb6 HB5.out.size
      clear hb6 HBL5 HB5 hr5 b50 b51
      go_wp2_with fail
      refine (two_add w1.heap.size w1.heap.size (w1.heap.size + 1) (acc ++ putTextOut pa) (pmB d.size) al _ HBL6.out (by rw [ByteArray.size_append]; omega)).mono ?_
      rintro e w7 ⟨rfl, hbl7, hb7, hk7⟩
      have hr7 : Hid (w7.heap[wr.heap.size]? = some (.cells #[.string pa, .string d] 41 (0, 0))) := hk7 _ _ _ _ hr6.out (by omega) (by decide)
      have HBL7 : Hid (Two w1.heap.size (w1.heap.size + 1) w1.heap.size al ((acc ++ putTextOut pa) ++ pmB d.size) w7) := hbl7.swap
      have HB7 : Hid (Below w.heap.size w w7) := HB6.out.trans (hb7.mono HB1.out.size)
      have b70 : w7.cell? ⟨wr.heap.size, 0, none⟩ = some (.string pa) := cell_of_row _ _ _ _ _ _ hr7.out
      have b71 : w7.cell? ⟨wr.heap.size, 1, none⟩ = some (.string d) := cell_of_row _ _ _ _ _ _ hr7.out
      clear hb7 hbl7 hk7 HBL6 HB6 hr6
      go_wp2_with fail
      refine (two_add w1.heap.size (w1.heap.size + 1) w1.heap.size al d ((acc ++ putTextOut pa) ++ pmB d.size) _ HBL7.out (by omega)).mono ?_
      rintro e w9 ⟨rfl, hbl9, hb9, hk9⟩
      have HBL9 : Hid (Two w1.heap.size w1.heap.size (w1.heap.size + 1) (soB F n (i + 1)) (alB F (i + 1)) w9) := by rw [HN.out, HL.out]; exact hbl9.swap
      have HB9 : Hid (Below w.heap.size w w9) := HB7.out.trans (hb9.mono HB1.out.size)
      clear hb9 hbl9 hk9 HBL7 HB7 hr7 b70 b71
      go_wp2_with fail
      go_roundw
      case rel => exact ⟨i + 1, by omega, by go_num, HBL9, HB9⟩
      case measure => simp [intMb]; omega
    · obtain rfl : i = n := by omega
      have HX : Hid (soV F i = (soB F i i ++ putTextOut (pckB (alB F i))) ++ sumB (alB F i)) := rfl
      have hal : (alB F i).size ≤ 4000 := by rw [alB_size]; exact HO.out.1.2.2.1
      have hle := soB_size (F := F) (n := i) (by omega) HO.out.1.2.1 HO.out.2 i (by omega)
      have hpk := pck_size hal
      have hpt := pmT_size (s := pckB (alB F i)) (by omega)
      have hsm := sumB_size (alB F i)
      have HBS : Hid (Two w1.heap.size (w1.heap.size + 1) w1.heap.size (alB F i) (soB F i i) wr) := HBL.out.swap
      clear HBL HO
      generalize soB F i i = S0 at *
      generalize alB F i = A0 at *
      go_wp2_with fail
      refine (two_tell w1.heap.size (w1.heap.size + 1) w1.heap.size A0 S0 _ HBS.out).mono ?_
      rintro e w3 ⟨rfl, hbl3, hb3⟩
      have HB3 : Hid (Below w.heap.size w w3) := HB.out.trans (hb3.mono HB1.out.size)
      have HBL3 : Hid (Two w1.heap.size w1.heap.size (w1.heap.size + 1) S0 A0 w3) := hbl3.swap
      clear hb3 hbl3 HBS HB
      go_wp2_with fail
      refine (HPK.out A0 _ hal).mono ?_
      rintro e w4 ⟨rfl, hb4⟩
      have HBL4 : Hid (Two w1.heap.size w1.heap.size (w1.heap.size + 1) S0 A0 w4) := HBL3.out.call hb4
      have HB4 : Hid (Below w.heap.size w w4) := blMb HB3.out hb4 HB3.out.size
      clear hb4 HBL3 HB3
      go_wp2_with fail
      refine (HPT.out (pckB A0) _ (by omega)).mono ?_
      rintro e w5 ⟨rfl, hb5⟩
      have HBL5 : Hid (Two w1.heap.size w1.heap.size (w1.heap.size + 1) S0 A0 w5) := HBL4.out.call hb5
      have HB5 : Hid (Below w.heap.size w w5) := blMb HB4.out hb5 HB4.out.size
      clear hb5 HBL4 HB4
      go_wp2_with fail
      refine (two_add w1.heap.size w1.heap.size (w1.heap.size + 1) S0 (putTextOut (pckB A0)) A0 _ HBL5.out (by omega)).mono ?_
      rintro e w6 ⟨rfl, hbl6, hb6, _⟩
      have HBL6 : Hid (Two w1.heap.size (w1.heap.size + 1) w1.heap.size A0 (S0 ++ putTextOut (pckB A0)) w6) := hbl6.swap
      have HB6 : Hid (Below w.heap.size w w6) := HB5.out.trans (hb6.mono HB1.out.size)
      clear hb6 hbl6 HBL5 HB5
      go_wp2_with fail
      refine (two_tell w1.heap.size (w1.heap.size + 1) w1.heap.size A0 (S0 ++ putTextOut (pckB A0)) _ HBL6.out).mono ?_
      rintro e w7 ⟨rfl, hbl7, hb7⟩
      have HB7 : Hid (Below w.heap.size w w7) := HB6.out.trans (hb7.mono HB1.out.size)
      have HBL7 : Hid (Two w1.heap.size w1.heap.size (w1.heap.size + 1) (S0 ++ putTextOut (pckB A0)) A0 w7) := hbl7.swap
      clear hb7 hbl7 HBL6 HB6
      go_wp2_with fail
      refine (HCR.out A0 _ hal).mono ?_
      rintro e w8 ⟨rfl, hb8⟩
      have HBL8 : Hid (Two w1.heap.size w1.heap.size (w1.heap.size + 1) (S0 ++ putTextOut (pckB A0)) A0 w8) := HBL7.out.call hb8
      have HB8 : Hid (Below w.heap.size w w8) := blMb HB7.out hb8 HB7.out.size
      clear hb8 HBL7 HB7
      go_wp2_with fail
      refine (two_add w1.heap.size w1.heap.size (w1.heap.size + 1) (S0 ++ putTextOut (pckB A0)) (sumB A0) A0 _ HBL8.out (by rw [ByteArray.size_append]; omega)).mono ?_
      rintro e w9 ⟨rfl, hbl9, hb9, _⟩
      have HBL9 : Hid (Two w1.heap.size w1.heap.size (w1.heap.size + 1) (soV F i) A0 w9) := by rw [HX.out]; exact hbl9
      have HB9 : Hid (Below w.heap.size w w9) := HB8.out.trans (hb9.mono HB1.out.size)
      clear hb9 hbl9 HBL8 HB8
      go_wp2_with fail
      refine (two_tell w1.heap.size w1.heap.size (w1.heap.size + 1) (soV F i) A0 _ HBL9.out).mono ?_
      rintro e w10 ⟨rfl, hbl10, hb10⟩
      have HB10 : Hid (Below w.heap.size w w10) := HB9.out.trans (hb10.mono HB1.out.size)
      clear hb10 hbl10 HBL9 HB9
      go_wp2_with fail
      go_ret2
      exact ⟨rfl, HB10.out⟩
set_option maxRecDepth 100000 in
theorem so_no (v : Value) (n : Nat) (F : Nat → MbI) (w : World) (hF : MbLe F n) (hok : ¬ mbR F n) (hr : MbArg w v n F) :
    Calls Try.prog 11 #[v] w fun e w' => e = .returned (.tuple #[.string ⟨#[]⟩, .bool false]) ∧ Below w.heap.size w w' := by
  have HK : Hid (Calls Try.prog 21 #[v] w fun e w' => e = .returned (.bool false) ∧ Below w.heap.size w w') := by
    have h2 := mbs_any v n F w hF hr
    rw [mbB_no hok] at h2
    exact h2
  obtain ⟨a, c, rfl, _⟩ := hr
  clear hok hF
  go_enter Try.func11, Try.ntmps11
  go_wp2_with fail
  refine HK.out.mono ?_
  rintro e w1 ⟨rfl, hb1⟩
  go_wp2_with fail
  go_ret2
  exact ⟨rfl, hb1⟩
theorem so_any (v : Value) (n : Nat) (F : Nat → MbI) (w : World) (hF : MbLe F n) (hr : MbArg w v n F) :
    Calls Try.prog 11 #[v] w fun e w' => e = .returned (.tuple #[.string (soT F n), .bool (mbB F n)]) ∧ Below w.heap.size w w' := by
  by_cases h : mbR F n
  · rw [soT_yes h, mbB_yes h]
    obtain ⟨a, c, rfl, hr⟩ := hr
    exact so_yes a c n F w hF h hr
  · rw [soT_no h, mbB_no h]
    exact so_no v n F w hF h hr
end Go.Proofs.Ytbkjcngehhdchaa

/-!   A block of members, as it is read: the code's. -/
namespace Go.Proofs.Ytbkjcngehhdchaa
open Go.RowKit
set_option linter.unusedVariables false
set_option linter.unusedSimpArgs false
theorem results_tmp4 {fn : Func} {t u v x : Tmp} (h : fn.results = #[.tmp t, .tmp u, .tmp v, .tmp x]) (tmps : Array Value) (P : Program) (w : World) :
    (results fn tmps).run P w = .ok (.tuple #[tmps.getD t undef, tmps.getD u undef, tmps.getD v undef, tmps.getD x undef]) w := by
  simp [results, h]
def nmD (s : ByteArray) : Option (List (ByteArray × Nat) × ByteArray) := match numI s with
  | none => none
  | some (n, r) => if 60 < n then none else naI r n
/-- names and sizes, as the code's reader makes them -/
structure NmR (B : Nat) (w : World) (v1 v2 : Value) (L : List (ByteArray × Nat)) : Prop where
  list : w.ownsRow B 41 2 v1 L.length (mbC (L.map fun p => ⟨p.1, ⟨#[]⟩⟩))
  size : w.ownsRow B 2 1 v2 L.length (L.map fun p => .int .i64 (p.2 : Int))
def NmP (w : World) (R : Option (List (ByteArray × Nat) × ByteArray)) (e : Ending) (w' : World) : Prop := Below w.heap.size w w' ∧ match R with
  | none => e = .returned (.tuple #[.slice none 0 0, .slice none 0 0, .string ⟨#[]⟩, .bool false])
  | some (L, r) => ∃ v1 v2, e = .returned (.tuple #[v1, v2, .string r, .bool true]) ∧ NmR w.heap.size w' v1 v2 L
/-- the walk of the names: the rows as far as they are written -/
structure NW (w wr : World) (g1 g2 n i : Nat) (C1 C2 : Array Value) (L : List (ByteArray × Nat)) : Prop where
  r1 : wr.heap[g1]? = some (.cells C1 41 (0, 0))
  r2 : wr.heap[g2]? = some (.cells C2 2 (0, 0))
  s1 : C1.size = 2 * n
  s2 : C2.size = n
  a : ∀ j, j < i → C1[2 * j]? = some (.string (L.getD j (⟨#[]⟩, 0)).1)
  d : ∀ j, j < n → C1[2 * j + 1]? = some (.string ⟨#[]⟩)
  z : ∀ j, j < i → C2[j]? = some (.int .i64 ((L.getD j (⟨#[]⟩, 0)).2 : Int))
  len : L.length = i
  below : Below w.heap.size w wr
  b1 : w.heap.size ≤ g1
  b2 : w.heap.size ≤ g2
theorem NW.ne {w wr : World} {g1 g2 n i : Nat} {C1 C2 : Array Value} {L : List (ByteArray × Nat)} (h : NW w wr g1 g2 n i C1 C2 L) : g1 ≠ g2 := fun e => by
  have h1 := h.r1
  rw [e, h.r2] at h1
  injection h1 with h1
  injection h1 with _ h1 _
  exact absurd h1 (by decide)
theorem NW.call {w wr w' : World} {g1 g2 n i : Nat} {C1 C2 : Array Value} {L : List (ByteArray × Nat)} (h : NW w wr g1 g2 n i C1 C2 L) (hb : Below wr.heap.size wr w') : NW w w' g1 g2 n i C1 C2 L :=
  ⟨(hb.block _ (row_ltM h.r1)).trans h.r1, (hb.block _ (row_ltM h.r2)).trans h.r2, h.s1, h.s2, h.a, h.d, h.z, h.len, blMb h.below hb h.below.size, h.b1, h.b2⟩
/-- one name more -/
theorem NW.name {w wr : World} {g1 g2 n i : Nat} {C1 C2 : Array Value} {L : List (ByteArray × Nat)} (h : NW w wr g1 g2 n i C1 C2 L) (hi : i < n) (a : ByteArray) :
    let W := wr.setCell ⟨g1, 2 * i, none⟩ (.string a)
    W.heap[g1]? = some (.cells (C1.setIfInBounds (2 * i) (.string a)) 41 (0, 0)) ∧ W.heap[g2]? = some (.cells C2 2 (0, 0)) ∧ Below w.heap.size w W :=
  ⟨heap_setCell_same _ _ _ _ _ _ h.r1, (heap_setCell_other _ _ _ _ h.ne.symm).trans h.r2, h.below.setCell (p := ⟨g1, 2 * i, none⟩) h.b1 _⟩
theorem NW.more {w wr w' : World} {g1 g2 n i : Nat} {C1 C2 : Array Value} {L : List (ByteArray × Nat)} (h : NW w wr g1 g2 n i C1 C2 L) (hi : i < n) (a : ByteArray) (z : Nat)
    (h1 : w'.heap[g1]? = some (.cells (C1.setIfInBounds (2 * i) (.string a)) 41 (0, 0))) (h2 : w'.heap[g2]? = some (.cells (C2.setIfInBounds i (.int .i64 (z : Int))) 2 (0, 0))) (hb : Below w.heap.size w w') :
    NW w w' g1 g2 n (i + 1) (C1.setIfInBounds (2 * i) (.string a)) (C2.setIfInBounds i (.int .i64 (z : Int))) (L ++ [(a, z)]) := by
  have hl := h.len
  refine ⟨h1, h2, by simpa using h.s1, by simpa using h.s2, fun j hj => ?_, fun j hj => ?_, fun j hj => ?_, by rw [List.length_append, hl]; rfl, hb, h.b1, h.b2⟩
  · by_cases e : j = i
    · subst e
      rw [gD_end L _ hl.symm, Array.getElem?_setIfInBounds_self_of_lt (by have := h.s1; omega)]
    · rw [gD_app L _ (by omega), Array.getElem?_setIfInBounds_ne (by omega)]
      exact h.a j (by omega)
  · rw [Array.getElem?_setIfInBounds_ne (by omega)]
    exact h.d j hj
  · by_cases e : j = i
    · subst e
      rw [gD_end L _ hl.symm, Array.getElem?_setIfInBounds_self_of_lt (by have := h.s2; omega)]
    · rw [gD_app L _ (by omega), Array.getElem?_setIfInBounds_ne (by omega)]
      exact h.z j (by omega)
theorem NW.done {w wr : World} {g1 g2 n : Nat} {C1 C2 : Array Value} {L : List (ByteArray × Nat)} (h : NW w wr g1 g2 n n C1 C2 L) (hn : n ≤ 60) : NmR w.heap.size wr (.slice (some ⟨g1, 0, none⟩) n n) (.slice (some ⟨g2, 0, none⟩) n n) L := by
  have hl := h.len
  have hm : ∀ j, j < n → mbF (L.map fun p => (⟨p.1, ⟨#[]⟩⟩ : MbI)) j = ⟨(L.getD j (⟨#[]⟩, 0)).1, ⟨#[]⟩⟩ := fun j hj => by
    rw [mbF_at (by rw [List.length_map]; omega), List.getElem_map, List.getD_eq_getElem?_getD, List.getElem?_eq_getElem (by omega)]; rfl
  refine ⟨⟨by rw [mbC_len, List.length_map]; omega, Or.inr ⟨g1, n, C1, by rw [hl], h.b1, h.r1, by omega, by unfold maxLen; omega, by have := h.s1; omega, ?_⟩⟩, ⟨by rw [List.length_map]; omega, Or.inr ⟨g2, n, C2, by rw [hl], h.b2, h.r2, by omega, by unfold maxLen; omega, by have := h.s2; omega, ?_⟩⟩⟩
  · rw [hl]
    exact row2_of C1 n _ (by rw [List.length_map]; exact hl) h.s1 (fun j hj => by rw [hm j hj]; exact h.a j hj) (fun j hj => by rw [hm j hj]; exact h.d j hj)
  · rw [hl]
    apply List.ext_getElem?
    intro k
    rw [List.getElem?_take]
    by_cases hk : k < n * 1
    · rw [if_pos hk]
      have e : C2.toList[k]? = C2[k]? := by simp
      rw [e, h.z k (by omega), List.getElem?_map, List.getD_eq_getElem?_getD, List.getElem?_eq_getElem (by omega)]; rfl
    · rw [if_neg hk]
      symm
      apply List.getElem?_eq_none
      rw [List.length_map]; omega
set_option maxRecDepth 100000 in
set_option maxHeartbeats 4000000 in
theorem nm_go (s r : ByteArray) (n : Nat) (w : World) (hs : s.size ≤ 1048576) (hI : numI s = some (n, r)) (hn : n ≤ 60) :
    Calls Try.prog 42 #[.string s] w fun e w' => NmP w (naI r n) e w' := by
  have hrs : r.size ≤ 1048576 := by have := (numI_bd hI).2; omega
  have HN : Hid (∀ w, Calls Try.prog 63 #[.string s] w fun e w' => e = .returned (.tuple #[.int .i64 (n : Int), .string r, .bool true]) ∧ Below w.heap.size w w') := fun w => by
    have h := numOf_any s w hs
    rw [hI] at h
    exact h
  have HNU : Hid (∀ (s : ByteArray) w, s.size ≤ 1048576 → Calls Try.prog 63 #[.string s] w fun e w' => e = .returned (numIV (numI s)) ∧ Below w.heap.size w w') := fun s w h => numOf_any s w h
  have HDA : Hid (∀ (s : ByteArray) w, s.size ≤ 1048576 → Calls Try.prog 43 #[.string s] w fun e w' => e = .returned (datIV (datI s)) ∧ Below w.heap.size w w') := fun s w h => dataOf_any s w h
  have HCL : Hid (∀ (s : ByteArray) w, s.size ≤ 1048576 → Calls Try.prog 64 #[.string s] w fun e w' => e = .returned (.string s) ∧ Below w.heap.size w w') := fun s w h => clone_any s w (by omega)
  obtain ⟨Z, hZ⟩ : ∃ Z, Z = naI r n := ⟨_, rfl⟩
  have HZ : Hid (Z = naI r n) := hZ
  rw [← hZ]
  have HRS : Hid (r.size ≤ 1048576) := hrs
  have hnI : ¬ (60 : Int) < (n : Int) := by omega
  obtain ⟨i0, hi0, hz0, hz1, hz2⟩ := info_parts Try.infMb
  obtain ⟨i1, hi1, hy0, hy1, hy2⟩ := info_parts Try.infI6
  obtain ⟨Z1, hZ1⟩ : ∃ Z1, Z1 = madeCells (Value.agg #[.string ⟨#[]⟩, .string ⟨#[]⟩]).cells (n * 2) := ⟨_, rfl⟩
  obtain ⟨Z2, hZ2⟩ : ∃ Z2, Z2 = madeCells (Value.int .i64 0).cells (n * 1) := ⟨_, rfl⟩
  have hmk1 : ∀ W : World, (Instr.makeSlice 26 (.int .i64 (n : Int)) (.int .i64 (n : Int))).run Try.prog W = .ok (.slice (some ⟨W.heap.size, 0, none⟩) n n) (W.alloc (.cells Z1 41)) := fun W => by
    have h := run_make (P := Try.prog) W 26 41 i0 (.agg #[.string ⟨#[]⟩, .string ⟨#[]⟩]) Try.underlying26 hi0 hz0 .i64 .i64 (n : Int) (n : Int) (by omega) (by omega) (by rw [hz2]; omega) (by omega)
    rw [hz1, Int.toNat_natCast, ← hZ1] at h
    simpa using h
  have hmk2 : ∀ W : World, (Instr.makeSlice 65 (.int .i64 (n : Int)) (.int .i64 (n : Int))).run Try.prog W = .ok (.slice (some ⟨W.heap.size, 0, none⟩) n n) (W.alloc (.cells Z2 2)) := fun W => by
    have h := run_make (P := Try.prog) W 65 2 i1 (.int .i64 0) Try.underlying65 hi1 hy0 .i64 .i64 (n : Int) (n : Int) (by omega) (by omega) (by rw [hy2]; omega) (by omega)
    rw [hy1, Int.toNat_natCast, ← hZ2] at h
    simpa using h
  have hZs1 : Z1.size = 2 * n := by rw [hZ1, size_madeCells]; omega
  have hZs2 : Z2.size = n := by rw [hZ2, size_madeCells]; omega
  have hZd : ∀ j, j < n → Z1[2 * j + 1]? = some (.string ⟨#[]⟩) := fun j hj => by
    rw [hZ1]; exact made2_at n j hj
  have HZ12 : Hid (Z1.size = 2 * n ∧ Z2.size = n ∧ ∀ j, j < n → Z1[2 * j + 1]? = some (.string ⟨#[]⟩)) := ⟨hZs1, hZs2, hZd⟩
  clear hZ hZ1 hZ2 hrs hI hi0 hz0 hz1 hz2 hi1 hy0 hy1 hy2 hZs1 hZs2 hZd
  go_enter Try.func42, Try.ntmps42
  go_wp2_with fail
  refine (HN.out _).mono ?_
  rintro e w1 ⟨rfl, hb1⟩
  have HB1 := hid hb1
  clear hb1 HN
  have mixed : Try.prog.follows .mixedOrders = true := by kernel_rfl
  go_wp2_with fail
  go_region_o
  all_goals
    (first
      | (obtain ⟨W, hW⟩ : ∃ W, W = ((w1.alloc (.cells Z1 41)).alloc (.cells Z2 2)).drew := ⟨_, rfl⟩
         have hNW : NW w W w1.heap.size (w1.heap.size + 1) n 0 Z1 Z2 [] := by
           refine ⟨?_, ?_, HZ12.out.1, HZ12.out.2.1, fun j hj => absurd hj (by omega), HZ12.out.2.2, fun j hj => absurd hj (by omega), rfl, ?_, HB1.out.size, by have := HB1.out.size; omega⟩
           · rw [hW]; exact (Below.heap_alloc _ _ _ (by simp)).trans (heap_alloc_new w1 _)
           · rw [hW]
             have h := heap_alloc_new (w1.alloc (.cells Z1 41)) (.cells Z2 2)
             have e : (w1.alloc (.cells Z1 41)).heap.size = w1.heap.size + 1 := by simp
             rw [e] at h; exact h
           · rw [hW]; exact ((HB1.out.alloc HB1.out.size _).alloc (by have := HB1.out.size; simp; omega) _).drew
         rw [← hW]
         clear hW
         generalize w1.heap.size + 1 = g2 at hNW ⊢
         generalize w1.heap.size = g1 at hNW ⊢
         have HNW := hid hNW
         clear hNW)
      | (obtain ⟨W, hW⟩ : ∃ W, W = ((w1.alloc (.cells Z2 2)).alloc (.cells Z1 41)).drew := ⟨_, rfl⟩
         have hNW : NW w W (w1.heap.size + 1) w1.heap.size n 0 Z1 Z2 [] := by
           refine ⟨?_, ?_, HZ12.out.1, HZ12.out.2.1, fun j hj => absurd hj (by omega), HZ12.out.2.2, fun j hj => absurd hj (by omega), rfl, ?_, by have := HB1.out.size; omega, HB1.out.size⟩
           · rw [hW]
             have h := heap_alloc_new (w1.alloc (.cells Z2 2)) (.cells Z1 41)
             have e : (w1.alloc (.cells Z2 2)).heap.size = w1.heap.size + 1 := by simp
             rw [e] at h; exact h
           · rw [hW]; exact (Below.heap_alloc _ _ _ (by simp)).trans (heap_alloc_new w1 _)
           · rw [hW]; exact ((HB1.out.alloc HB1.out.size _).alloc (by have := HB1.out.size; simp; omega) _).drew
         rw [← hW]
         clear hW
         generalize w1.heap.size + 1 = g1 at hNW ⊢
         generalize w1.heap.size = g2 at hNW ⊢
         have HNW := hid hNW
         clear hNW))
    clear HB1 HZ12 hmk1 hmk2 mixed
    go_wp2_with fail
    go_loopw [7, 31] (fun x v wr => ∃ (i : Nat) (L : List (ByteArray × Nat)) (r1 : ByteArray) (C1 C2 : Array Value), i ≤ n ∧ v = .int .i64 (i : Int) ∧ x = .string r1 ∧ Hid (naI r i = some (L, r1)) ∧ Hid (NW w wr g1 g2 n i C1 C2 L)) (fun _ v _ => n - (intMb v).toNat)
    case atStart => exact ⟨0, [], r, Z1, Z2, by omega, rfl, rfl, rfl, HNW⟩
    case round =>
      clear HNW
      obtain ⟨i, L, r1, C1, C2, hi, rfl, rfl, HA, HW⟩ := hrel
      by_cases hlt : i < n
      · have hltI : (i : Int) < (n : Int) := by omega
        have hr1 : r1.size ≤ 1048576 := by have := (naI_bd HA.out).2.1; have := HRS.out; omega
        have HD1 : Hid (∀ w, Calls Try.prog 43 #[.string r1] w fun e w' => e = .returned (datIV (datI r1)) ∧ Below w.heap.size w w') := fun w => HDA.out r1 w hr1
        cases hd : datI r1 with
        | none =>
          rw [hd] at HD1
          have hZN : Z = none := by rw [HZ.out]; exact naI_stop (naI_no1 HA.out hd) hlt
          have HD2 : Hid (∀ w, Calls Try.prog 43 #[.string r1] w fun e w' => e = .returned (.tuple #[.string ⟨#[]⟩, .string ⟨#[]⟩, .bool false]) ∧ Below w.heap.size w w') := HD1
          have HZN := hid hZN
          clear HD1 hd hZN
          go_wp2_with fail
          refine (HD2.out _).mono ?_
          rintro e w3 ⟨rfl, hb3⟩
          have HB3 := hid (blMb HW.out.below hb3 HW.out.below.size)
          clear hb3 HW HA
          go_wp2_with fail
          refine bodyPost_ret (results_tmp4 rfl _ _ _) rfl ⟨HB3.out, ?_⟩
          rw [HZN.out]; rfl
        | some q =>
          obtain ⟨a, r2⟩ := q
          rw [hd] at HD1
          have hab := datI_bd hd
          have HD2 : Hid (∀ w, Calls Try.prog 43 #[.string r1] w fun e w' => e = .returned (.tuple #[.string a, .string r2, .bool true]) ∧ Below w.heap.size w w') := HD1
          have HC2 : Hid (∀ w, Calls Try.prog 64 #[.string a] w fun e w' => e = .returned (.string a) ∧ Below w.heap.size w w') := fun w => HCL.out a w (by omega)
          have HN1 : Hid (∀ w, Calls Try.prog 63 #[.string r2] w fun e w' => e = .returned (numIV (numI r2)) ∧ Below w.heap.size w w') := fun w => HNU.out r2 w (by omega)
          have HDI := hid hd
          have HLT := hid hlt
          obtain ⟨q, hq⟩ : ∃ q, q = 2 * i := ⟨_, rfl⟩
          have hiq : i * 2 = q := by omega
          have HQ := hid hq
          clear HD1 hd hab hq
          go_wp2_with fail
          refine (HD2.out _).mono ?_
          rintro e w3 ⟨rfl, hb3⟩
          have HW3 := hid (HW.out.call hb3)
          clear hb3 HW
          go_wp2_with fail
          refine (HC2.out _).mono ?_
          rintro e w4 ⟨rfl, hb4⟩
          have HW4 := hid (HW3.out.call hb4)
          clear hb4 HW3
          obtain ⟨u, hu⟩ : ∃ u, C1[2 * i]? = some u := ⟨C1[2 * i]'(by have := HW4.out.s1; omega), Array.getElem?_eq_getElem _⟩
          rw [← HQ.out] at hu
          have x1 : w4.cell? ⟨g1, q, none⟩ = some u := (cell_of_row _ _ _ _ _ _ HW4.out.r1).trans hu
          have z1 := frozen_of_row w4 g1 q _ _ HW4.out.r1
          obtain ⟨W5, hW5⟩ : ∃ W5, W5 = w4.setCell ⟨g1, q, none⟩ (.string a) := ⟨_, rfl⟩
          have HM5 := hid (HW4.out.name hlt a)
          simp only [] at HM5
          rw [← HQ.out, ← hW5] at HM5
          go_wp2_with fail
          rw [← hW5]
          clear hu x1 z1 hW5
          cases hn2 : numI r2 with
          | none =>
            rw [hn2] at HN1
            have hZN : Z = none := by rw [HZ.out]; exact naI_stop (naI_no2 HA.out HDI.out hn2) hlt
            have HN2 : Hid (∀ w, Calls Try.prog 63 #[.string r2] w fun e w' => e = .returned (.tuple #[.int .i64 0, .string ⟨#[]⟩, .bool false]) ∧ Below w.heap.size w w') := HN1
            have HZN := hid hZN
            have HG2 := hid HW4.out.b2
            have HS2 := hid HW4.out.s2
            clear HN1 hn2 hZN HW4 HA
            refine (HN2.out _).mono ?_
            rintro e w6 ⟨rfl, hb6⟩
            have r26 := (hb6.block _ (row_ltM HM5.out.2.1)).trans HM5.out.2.1
            obtain ⟨u, hu⟩ : ∃ u, C2[i]? = some u := ⟨C2[i]'(by have := HS2.out; omega), Array.getElem?_eq_getElem _⟩
            have x1 : w6.cell? ⟨g2, i, none⟩ = some u := (cell_of_row _ _ _ _ _ _ r26).trans hu
            have z1 := frozen_of_row w6 g2 i _ _ r26
            have HB6 := hid (blMb HM5.out.2.2 hb6 HM5.out.2.2.size)
            clear hb6 r26 hu HM5
            go_wp2_with fail
            refine bodyPost_ret (results_tmp4 rfl _ _ _) rfl ⟨HB6.out.setCell (p := ⟨g2, i, none⟩) HG2.out _, ?_⟩
            rw [HZN.out]; rfl
          | some q2 =>
            obtain ⟨z, r3⟩ := q2
            rw [hn2] at HN1
            have HN2 : Hid (∀ w, Calls Try.prog 63 #[.string r2] w fun e w' => e = .returned (.tuple #[.int .i64 (z : Int), .string r3, .bool true]) ∧ Below w.heap.size w w') := HN1
            have HA2 := hid (naI_go HA.out HDI.out hn2)
            clear HN1 hn2 HA
            refine (HN2.out _).mono ?_
            rintro e w6 ⟨rfl, hb6⟩
            have r16 := (hb6.block _ (row_ltM HM5.out.1)).trans HM5.out.1
            have r26 := (hb6.block _ (row_ltM HM5.out.2.1)).trans HM5.out.2.1
            obtain ⟨u, hu⟩ : ∃ u, C2[i]? = some u := ⟨C2[i]'(by have := HW4.out.s2; omega), Array.getElem?_eq_getElem _⟩
            have x1 : w6.cell? ⟨g2, i, none⟩ = some u := (cell_of_row _ _ _ _ _ _ r26).trans hu
            have z1 := frozen_of_row w6 g2 i _ _ r26
            have hb6' := blMb HM5.out.2.2 hb6 HM5.out.2.2.size
            have HW7 : Hid (NW w (w6.setCell ⟨g2, i, none⟩ (.int .i64 (z : Int))) g1 g2 n (i + 1) (C1.setIfInBounds (2 * i) (.string a)) (C2.setIfInBounds i (.int .i64 (z : Int))) (L ++ [(a, z)])) := by
              refine HW4.out.more HLT.out a z ?_ (heap_setCell_same _ _ _ _ _ _ r26) (hb6'.setCell (p := ⟨g2, i, none⟩) HW4.out.b2 _)
              rw [heap_setCell_other _ _ _ _ HW4.out.ne, r16, HQ.out]
            clear hb6 hb6' r16 r26 hu HM5 HW4
            go_wp2_with fail
            go_roundw
            case rel => exact ⟨i + 1, L ++ [(a, z)], r3, _, _, by omega, by go_num, rfl, HA2, HW7⟩
            case measure => simp [intMb]; omega
      · obtain rfl : i = n := by omega
        have HZ2 : Hid (Z = some (L, r1)) := by show Z = _; rw [HZ.out]; exact HA.out
        have HDN := hid (HW.out.done hn)
        have HB := hid HW.out.below
        clear HA HW HZ
        go_wp2_with fail
        refine bodyPost_ret (results_tmp4 rfl _ _ _) rfl ⟨HB.out, ?_⟩
        rw [HZ2.out]
        exact ⟨_, _, rfl, HDN.out⟩
end Go.Proofs.Ytbkjcngehhdchaa
