/-
  Maps that the program makes, whatever their elements: what a key gives, as a function.
-/
import Derived.Test.YtanlggglbpibfaaRows
import Derived.Maps.OwnSet
import Derived.WalkKit
import Derived.Below
namespace Go.Proofs.Ytanlggglbpibfaa
open Go.RowKit
open Go.Maps (Keyed)
set_option linter.unusedVariables false
set_option linter.unusedSimpArgs false
/-- an element read as itself -/
def heldR (v : Value) : Option (DataW Value × List MemPlace) := some (.held v, [])
/-- block b is a map of m entries that gives what f says -/
def MapF (w : World) (P : Program) (k : TypeId) (b m : Nat) (f : Lit → Option Value) : Prop :=
  ∃ D : DataW Value, w.ownsMap P k heldR b m D ∧ Maps.size D = m ∧ ∀ kl, WideAt.IsKeyLit kl → (f kl = none → Maps.has D kl = false) ∧ ∀ v, f kl = some v → Maps.has D kl = true ∧ ∀ z, D.atKey kl z = .held v
theorem MapF.made (w : World) (P : Program) (k : TypeId) : MapF (w.alloc (.map #[] 0)) P k w.heap.size 0 (fun _ => none) :=
  ⟨.map [], World.ownsMap_made w P k heldR, rfl, fun kl _ => ⟨fun _ => rfl, fun v h => by cases h⟩⟩
theorem MapF.same {w w' : World} {P : Program} {k : TypeId} {b m : Nat} {f : Lit → Option Value} (h : MapF w P k b m f) (he : w'.heap[b]? = w.heap[b]?) : MapF w' P k b m f := by
  obtain ⟨D, ⟨es, clock, hb, F, hs, hD⟩, h2⟩ := h
  exact ⟨D, ⟨es, clock, he.trans hb, F, hs, hD⟩, h2⟩
theorem MapF.lt {w : World} {P : Program} {k : TypeId} {b m : Nat} {f : Lit → Option Value} (h : MapF w P k b m f) : b < w.heap.size := by
  obtain ⟨D, h1, _⟩ := h
  exact h1.lt
theorem MapF.under {w w' : World} {P : Program} {k : TypeId} {b m : Nat} {f : Lit → Option Value} (h : MapF w P k b m f) (hb : Below w.heap.size w w') : MapF w' P k b m f := h.same (hb.block b h.lt)
theorem MapF.congr {w : World} {P : Program} {k : TypeId} {b m : Nat} {f g : Lit → Option Value} (h : MapF w P k b m f) (he : ∀ kl, WideAt.IsKeyLit kl → g kl = f kl) : MapF w P k b m g := by
  obtain ⟨D, h1, h2, h3⟩ := h
  exact ⟨D, h1, h2, fun kl hk => by rw [he kl hk]; exact h3 kl hk⟩
theorem mq_nothing : True := trivial
section
variable {P : Program} {k : TypeId} {w : World} {b m : Nat} {f : Lit → Option Value}
theorem MapF.look_yes {t e : TypeId} (h : MapF w P k b m f) (K : Keyed P k) (ht : P.underlying t = some (.map k e)) {z : Value} (hz : (zeroValue e).run P w = .ok z w) {key : Value} {kl : Lit} (hkey : keyOf P k key = some kl) {v : Value} (hf : f kl = some v) :
    (Instr.lookup t (.map (some b)) key true).run P w = .ok (.tuple #[v, .bool true]) w ∧ (Instr.lookup t (.map (some b)) key false).run P w = .ok v w := by
  obtain ⟨D, h1, _, h3⟩ := h
  obtain ⟨hh, ha⟩ := (h3 kl (K.key hkey)).2 v hf
  obtain ⟨x, ps, r1, r2⟩ := h1.look_ok K ht hz (zd := .held z) (zp := []) rfl hkey
  obtain ⟨y, qs, q1, q2⟩ := h1.lookup K ht hz (zd := .held z) (zp := []) rfl hkey
  rw [ha] at r2 q2
  simp only [heldR, Option.some.injEq, Prod.mk.injEq, DataW.held.injEq] at r2 q2
  rw [r1, q1, hh, r2.1, q2.1]
  exact ⟨rfl, rfl⟩
theorem MapF.look_no {t e : TypeId} (h : MapF w P k b m f) (K : Keyed P k) (ht : P.underlying t = some (.map k e)) {z : Value} (hz : (zeroValue e).run P w = .ok z w) {key : Value} {kl : Lit} (hkey : keyOf P k key = some kl) (hf : f kl = none) :
    (Instr.lookup t (.map (some b)) key true).run P w = .ok (.tuple #[z, .bool false]) w ∧ (Instr.lookup t (.map (some b)) key false).run P w = .ok z w := by
  obtain ⟨D, h1, _, h3⟩ := h
  have hh := (h3 kl (K.key hkey)).1 hf
  obtain ⟨x, ps, r1, r2⟩ := h1.look_ok K ht hz (zd := .held z) (zp := []) rfl hkey
  obtain ⟨y, qs, q1, q2⟩ := h1.lookup K ht hz (zd := .held z) (zp := []) rfl hkey
  rw [Maps.atKey_of_not_has hh] at r2 q2
  simp only [heldR, Option.some.injEq, Prod.mk.injEq, DataW.held.injEq] at r2 q2
  rw [r1, q1, hh, r2.1, q2.1]
  exact ⟨rfl, rfl⟩
theorem MapF.len {t e : TypeId} (h : MapF w P k b m f) (ht : P.underlying t = some (.map k e)) (ty : TypeId) : (Builtin.len_ #[t] ty #[.map (some b)]).run P w = .ok (.int .i64 (m : Int)) w := by
  obtain ⟨D, h1, h2, _⟩ := h
  rw [h1.len ht ty, h2]
open Classical in
/-- what a map gives behind a store -/
noncomputable def stK (f : Lit → Option Value) (kl : Lit) (v : Value) : Lit → Option Value := fun x => if x = kl then some v else f x
theorem stK_same (f : Lit → Option Value) (kl : Lit) (v : Value) : stK f kl v kl = some v := by unfold stK; rw [if_pos rfl]
theorem stK_other {f : Lit → Option Value} {kl x : Lit} {v : Value} (h : x ≠ kl) : stK f kl v x = f x := by unfold stK; rw [if_neg h]
theorem MapF.store {t e : TypeId} (h : MapF w P k b m f) (K : Keyed P k) (ht : P.underlying t = some (.map k e)) (hn : m < maxLen) {key val : Value} {kl : Lit} (hkey : keyOf P k key = some kl) :
    ∃ w', (Instr.mapUpdate t (.map (some b)) key val).run P w = .ok () w' ∧ MapF w' P k b (if (f kl).isSome then m else m + 1) (stK f kl val) ∧ w.grownBy w' (some b) := by
  obtain ⟨D, h1, h2, h3⟩ := h
  obtain ⟨w', r1, r2, r3⟩ := h1.update K ht hn hkey (val := val) (d := .held val) (ps := []) rfl
  have hk := K.key hkey
  have hT := h1.tidy K
  have hsz : Maps.size (D.put kl (.held val)) = if (f kl).isSome then m else m + 1 := by
    have e := Maps.size_put (k := kl) hT (.held val)
    rw [e, h2]
    cases hf : f kl with
    | none => rw [(h3 kl hk).1 hf]; rfl
    | some v => rw [((h3 kl hk).2 v hf).1]; rfl
  refine ⟨w', r1, ⟨_, ?_, hsz, fun x hx => ?_⟩, r3⟩
  · obtain ⟨es, clock, hb, F, hs, hD⟩ := r2
    refine ⟨es, clock, hb, F, ?_, hD⟩
    have e : es.size = Maps.size (D.put kl (.held val)) := by rw [hD]; simp [Maps.size, length_sorted]
    rw [e, hsz]
    exact Nat.le_refl _
  · by_cases hxk : x = kl
    · subst hxk
      refine ⟨fun e => ?_, fun v e => ?_⟩
      · rw [stK_same] at e; cases e
      · rw [stK_same] at e
        cases e
        exact ⟨Maps.has_put_same hT.isMap hk _, fun z => Maps.atKey_put_same hT.isMap hk _ z⟩
    · rw [stK_other hxk, Maps.has_put_other hxk]
      refine ⟨(h3 x hx).1, fun v e => ⟨((h3 x hx).2 v e).1, fun z => ?_⟩⟩
      rw [Maps.atKey_put_other hxk]
      exact ((h3 x hx).2 v e).2 z

open Classical in
noncomputable def dlK (f : Lit → Option Value) (kl : Lit) : Lit → Option Value := fun x => if x = kl then none else f x
theorem dlK_same (f : Lit → Option Value) (kl : Lit) : dlK f kl kl = none := by unfold dlK; rw [if_pos rfl]
theorem dlK_other {f : Lit → Option Value} {kl x : Lit} (h : x ≠ kl) : dlK f kl x = f x := by unfold dlK; rw [if_neg h]
theorem MapF.drop {t e : TypeId} (h : MapF w P k b m f) (K : Keyed P k) (ht : P.underlying t = some (.map k e)) {key : Value} {kl : Lit} (hkey : keyOf P k key = some kl) (ty : TypeId) :
    ∃ w', (Builtin.delete_ #[t, k] ty #[.map (some b), key]).run P w = .ok (.tuple #[]) w' ∧ MapF w' P k b (if (f kl).isSome then m - 1 else m) (dlK f kl) ∧ w.grownBy w' (some b) := by
  obtain ⟨D, h1, h2, h3⟩ := h
  obtain ⟨w', r1, r2, r3⟩ := h1.drop K ht hkey ty
  have hk := K.key hkey
  have hT := h1.tidy K
  have hsz : Maps.size (D.del kl) = if (f kl).isSome then m - 1 else m := by
    have e := Maps.size_del (k := kl) hT
    rw [h2] at e
    cases hf : f kl with
    | none => rw [(h3 kl hk).1 hf] at e; simpa using e
    | some v => rw [((h3 kl hk).2 v hf).1] at e; simp at e ⊢; omega
  refine ⟨w', r1, ⟨_, ?_, hsz, fun x hx => ?_⟩, r3.grown⟩
  · obtain ⟨es, clock, hb, F, hs, hD⟩ := r2
    refine ⟨es, clock, hb, F, ?_, hD⟩
    have e : es.size = Maps.size (D.del kl) := by rw [hD]; simp [Maps.size, length_sorted]
    rw [e, hsz]
    exact Nat.le_refl _
  · by_cases hxk : x = kl
    · subst hxk
      refine ⟨fun _ => Maps.has_del_same, fun v e => ?_⟩
      rw [dlK_same] at e; cases e
    · rw [dlK_other hxk, Maps.has_del_other hxk]
      refine ⟨(h3 x hx).1, fun v e => ⟨((h3 x hx).2 v e).1, fun z => ?_⟩⟩
      rw [Maps.atKey_del_other hxk]
      exact ((h3 x hx).2 v e).2 z
end
theorem wpList_lookF {P : Program} (w : World) {ops : Array Oper} {rest : List Oper} {o : Oper} {a : Act} {Q : Exit → Act → World → Prop}
    (hg : o.guard = none) (m x : Operand) (t : TypeId) (c : Bool) (hop : o.op = Op.lookup t m x c) (mv key v : Value) (hm : a.eval m = mv) (hx : a.eval x = key)
    (hrun : (Instr.lookup t mv key c).run P w = .ok v w) (hK : wpList P ops Q rest (a.put o.dst v) w) : wpList P ops Q (o :: rest) a w := by
  refine wpList_plain hg fun K' hK' => ?_
  unfold Oper.wp
  simp [execOp, hop, hm, hx, hrun, Result.andThen]
  exact hK' _ _ hK
theorem wpList_storeF {P : Program} (w : World) {ops : Array Oper} {rest : List Oper} {o : Oper} {a : Act} {Q : Exit → Act → World → Prop}
    (hg : o.guard = none) (mo x v : Operand) (t : TypeId) (hop : o.op = Op.mapUpdate t mo x v)
    (k e : TypeId) (K : Keyed P k) (ht : P.underlying t = some (.map k e)) (b m : Nat) (f : Lit → Option Value)
    (hm : a.eval mo = .map (some b)) (hown : MapF w P k b m f) (hn : m < maxLen) (key val : Value) (kl : Lit) (hx : a.eval x = key) (hv : a.eval v = val) (hkey : keyOf P k key = some kl)
    (hK : ∀ w', MapF w' P k b (if (f kl).isSome then m else m + 1) (stK f kl val) → w.grownBy w' (some b) → wpList P ops Q rest (a.put o.dst undef) w') :
    wpList P ops Q (o :: rest) a w := by
  refine wpList_plain hg fun K' hK' => ?_
  obtain ⟨w', hrun, r1, r2⟩ := hown.store K ht hn (val := val) hkey
  unfold Oper.wp
  simp [execOp, hop, hm, hx, hv, hrun, Result.andThen]
  exact hK' _ _ (hK w' r1 r2)
theorem hold_goalF {p : Prop} (h : Hid p) : p := h
end Go.Proofs.Ytanlggglbpibfaa
