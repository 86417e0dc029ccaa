/-
  Several texts of this seat as one: Mp, ShelfB, Bld.
-/
import Derived.Test.YtpeddaljgmkomaaRows
import Derived.Maps.OwnSet
import Derived.WalkKit
import Derived.Below
import Derived.Shelf.Strings.Builder1
import Derived.Lib.AppendStr
import Derived.Lib.UnsafeStr
import Derived.Laws.Strings

/-!   Maps that the program makes, whatever their elements: what a key gives, as a function. -/
namespace Go.Proofs.Ytpeddaljgmkomaa
open Go.RowKit
open Go.Maps (Keyed)
set_option linter.unusedVariables false
set_option linter.unusedSimpArgs false
/-- an element read as itself -/
def heldR (v : Value) : Option (DataW Value × List MemPlace) := some (.held v, [])
/-- block b is a map of m entries that gives what f says -/
def MapF (w : World) (P : Program) (k : TypeId) (b m : Nat) (f : Lit → Option Value) : Prop :=
  ∃ D : DataW Value, w.ownsMap P k heldR b m D ∧ Maps.size D = m ∧ ∀ kl, WideAt.IsKeyLit kl → (f kl = none → Maps.has D kl = false) ∧ ∀ v, f kl = some v → Maps.has D kl = true ∧ ∀ z, D.atKey kl z = .held v
theorem MapF.made (w : World) (P : Program) (k : TypeId) : MapF (w.alloc (.map #[] 0)) P k w.heap.size 0 (fun _ => none) :=
  ⟨.map [], World.ownsMap_made w P k heldR, rfl, fun kl _ => ⟨fun _ => rfl, fun v h => by cases h⟩⟩
theorem MapF.same {w w' : World} {P : Program} {k : TypeId} {b m : Nat} {f : Lit → Option Value} (h : MapF w P k b m f) (he : w'.heap[b]? = w.heap[b]?) : MapF w' P k b m f := by
  obtain ⟨D, ⟨es, clock, hb, F, hs, hD⟩, h2⟩ := h
  exact ⟨D, ⟨es, clock, he.trans hb, F, hs, hD⟩, h2⟩
theorem MapF.lt {w : World} {P : Program} {k : TypeId} {b m : Nat} {f : Lit → Option Value} (h : MapF w P k b m f) : b < w.heap.size := by
  obtain ⟨D, h1, _⟩ := h
  exact h1.lt
theorem MapF.under {w w' : World} {P : Program} {k : TypeId} {b m : Nat} {f : Lit → Option Value} (h : MapF w P k b m f) (hb : Below w.heap.size w w') : MapF w' P k b m f := h.same (hb.block b h.lt)
theorem MapF.congr {w : World} {P : Program} {k : TypeId} {b m : Nat} {f g : Lit → Option Value} (h : MapF w P k b m f) (he : ∀ kl, WideAt.IsKeyLit kl → g kl = f kl) : MapF w P k b m g := by
  obtain ⟨D, h1, h2, h3⟩ := h
  exact ⟨D, h1, h2, fun kl hk => by rw [he kl hk]; exact h3 kl hk⟩
section
variable {P : Program} {k : TypeId} {w : World} {b m : Nat} {f : Lit → Option Value}
theorem MapF.look_yes {t e : TypeId} (h : MapF w P k b m f) (K : Keyed P k) (ht : P.underlying t = some (.map k e)) {z : Value} (hz : (zeroValue e).run P w = .ok z w) {key : Value} {kl : Lit} (hkey : keyOf P k key = some kl) {v : Value} (hf : f kl = some v) :
    (Instr.lookup t (.map (some b)) key true).run P w = .ok (.tuple #[v, .bool true]) w ∧ (Instr.lookup t (.map (some b)) key false).run P w = .ok v w := by
  obtain ⟨D, h1, _, h3⟩ := h
  obtain ⟨hh, ha⟩ := (h3 kl (K.key hkey)).2 v hf
  obtain ⟨x, ps, r1, r2⟩ := h1.look_ok K ht hz (zd := .held z) (zp := []) rfl hkey
  obtain ⟨y, qs, q1, q2⟩ := h1.lookup K ht hz (zd := .held z) (zp := []) rfl hkey
  rw [ha] at r2 q2
  simp only [heldR, Option.some.injEq, Prod.mk.injEq, DataW.held.injEq] at r2 q2
  rw [r1, q1, hh, r2.1, q2.1]
  exact ⟨rfl, rfl⟩
theorem MapF.look_no {t e : TypeId} (h : MapF w P k b m f) (K : Keyed P k) (ht : P.underlying t = some (.map k e)) {z : Value} (hz : (zeroValue e).run P w = .ok z w) {key : Value} {kl : Lit} (hkey : keyOf P k key = some kl) (hf : f kl = none) :
    (Instr.lookup t (.map (some b)) key true).run P w = .ok (.tuple #[z, .bool false]) w ∧ (Instr.lookup t (.map (some b)) key false).run P w = .ok z w := by
  obtain ⟨D, h1, _, h3⟩ := h
  have hh := (h3 kl (K.key hkey)).1 hf
  obtain ⟨x, ps, r1, r2⟩ := h1.look_ok K ht hz (zd := .held z) (zp := []) rfl hkey
  obtain ⟨y, qs, q1, q2⟩ := h1.lookup K ht hz (zd := .held z) (zp := []) rfl hkey
  rw [Maps.atKey_of_not_has hh] at r2 q2
  simp only [heldR, Option.some.injEq, Prod.mk.injEq, DataW.held.injEq] at r2 q2
  rw [r1, q1, hh, r2.1, q2.1]
  exact ⟨rfl, rfl⟩
theorem MapF.len {t e : TypeId} (h : MapF w P k b m f) (ht : P.underlying t = some (.map k e)) (ty : TypeId) : (Builtin.len_ #[t] ty #[.map (some b)]).run P w = .ok (.int .i64 (m : Int)) w := by
  obtain ⟨D, h1, h2, _⟩ := h
  rw [h1.len ht ty, h2]
open Classical in
/-- what a map gives behind a store -/
noncomputable def putF (f : Lit → Option Value) (kl : Lit) (v : Value) : Lit → Option Value := fun x => if x = kl then some v else f x
theorem putF_same (f : Lit → Option Value) (kl : Lit) (v : Value) : putF f kl v kl = some v := by unfold putF; rw [if_pos rfl]
theorem putF_other {f : Lit → Option Value} {kl x : Lit} {v : Value} (h : x ≠ kl) : putF f kl v x = f x := by unfold putF; rw [if_neg h]
theorem MapF.store {t e : TypeId} (h : MapF w P k b m f) (K : Keyed P k) (ht : P.underlying t = some (.map k e)) (hn : m < maxLen) {key val : Value} {kl : Lit} (hkey : keyOf P k key = some kl) :
    ∃ w', (Instr.mapUpdate t (.map (some b)) key val).run P w = .ok () w' ∧ MapF w' P k b (if (f kl).isSome then m else m + 1) (putF f kl val) ∧ w.grownBy w' (some b) := by
  obtain ⟨D, h1, h2, h3⟩ := h
  obtain ⟨w', r1, r2, r3⟩ := h1.update K ht hn hkey (val := val) (d := .held val) (ps := []) rfl
  have hk := K.key hkey
  have hT := h1.tidy K
  have hsz : Maps.size (D.put kl (.held val)) = if (f kl).isSome then m else m + 1 := by
    have e := Maps.size_put (k := kl) hT (.held val)
    rw [e, h2]
    cases hf : f kl with
    | none => rw [(h3 kl hk).1 hf]; rfl
    | some v => rw [((h3 kl hk).2 v hf).1]; rfl
  refine ⟨w', r1, ⟨_, ?_, hsz, fun x hx => ?_⟩, r3⟩
  · obtain ⟨es, clock, hb, F, hs, hD⟩ := r2
    refine ⟨es, clock, hb, F, ?_, hD⟩
    have e : es.size = Maps.size (D.put kl (.held val)) := by rw [hD]; simp [Maps.size, length_sorted]
    rw [e, hsz]
    exact Nat.le_refl _
  · by_cases hxk : x = kl
    · subst hxk
      refine ⟨fun e => ?_, fun v e => ?_⟩
      · rw [putF_same] at e; cases e
      · rw [putF_same] at e
        cases e
        exact ⟨Maps.has_put_same hT.isMap hk _, fun z => Maps.atKey_put_same hT.isMap hk _ z⟩
    · rw [putF_other hxk, Maps.has_put_other hxk]
      refine ⟨(h3 x hx).1, fun v e => ⟨((h3 x hx).2 v e).1, fun z => ?_⟩⟩
      rw [Maps.atKey_put_other hxk]
      exact ((h3 x hx).2 v e).2 z
end
theorem wpList_lookF {P : Program} (w : World) {ops : Array Oper} {rest : List Oper} {o : Oper} {a : Act} {Q : Exit → Act → World → Prop}
    (hg : o.guard = none) (m x : Operand) (t : TypeId) (c : Bool) (hop : o.op = Op.lookup t m x c) (mv key v : Value) (hm : a.eval m = mv) (hx : a.eval x = key)
    (hrun : (Instr.lookup t mv key c).run P w = .ok v w) (hK : wpList P ops Q rest (a.put o.dst v) w) : wpList P ops Q (o :: rest) a w := by
  refine wpList_plain hg fun K' hK' => ?_
  unfold Oper.wp
  simp [execOp, hop, hm, hx, hrun, Result.andThen]
  exact hK' _ _ hK
theorem wpList_storeF {P : Program} (w : World) {ops : Array Oper} {rest : List Oper} {o : Oper} {a : Act} {Q : Exit → Act → World → Prop}
    (hg : o.guard = none) (mo x v : Operand) (t : TypeId) (hop : o.op = Op.mapUpdate t mo x v)
    (k e : TypeId) (K : Keyed P k) (ht : P.underlying t = some (.map k e)) (b m : Nat) (f : Lit → Option Value)
    (hm : a.eval mo = .map (some b)) (hown : MapF w P k b m f) (hn : m < maxLen) (key val : Value) (kl : Lit) (hx : a.eval x = key) (hv : a.eval v = val) (hkey : keyOf P k key = some kl)
    (hK : ∀ w', MapF w' P k b (if (f kl).isSome then m else m + 1) (putF f kl val) → w.grownBy w' (some b) → wpList P ops Q rest (a.put o.dst undef) w') :
    wpList P ops Q (o :: rest) a w := by
  refine wpList_plain hg fun K' hK' => ?_
  obtain ⟨w', hrun, r1, r2⟩ := hown.store K ht hn (val := val) hkey
  unfold Oper.wp
  simp [execOp, hop, hm, hx, hv, hrun, Result.andThen]
  exact hK' _ _ (hK w' r1 r2)
theorem hold_goalF {p : Prop} (h : Hid p) : p := h
end Go.Proofs.Ytpeddaljgmkomaa

/-!   The contracts of strings.Builder: WriteString and String. -/
namespace Go.Proofs
open Go.Shelf
def Try.lays166_ren : Go.Shelf.Ren := ⟨fun | 166 => 85 | 240 => 102 | 276 => 106 | n => n, fun | 0 => 0 | 3 => 3 | 4 => 4 | 5 => 5 | 9 => 9 | 20 => 20 | 37 => 39 | 70 => 97 | 72 => 99 | 75 => 101 | 80 => 80 | 127 => 123 | 164 => 132 | n => n, fun | n => n⟩
theorem Try.lays166 : Go.Proofs.Lays.n166 Try.prog Try.lays166_ren := {
  mixed := by kernel_rfl
  f166 := Try.func85.trans (congrArg some (by kernel_rfl))
  f240 := Try.func102.trans (congrArg some (by kernel_rfl))
  f276 := Try.func106.trans (congrArg some (by kernel_rfl))
  t0 := Try.underlying0
  a0 := Try.isAgg0
  z0 := Try.sizeOf0
  v0 := Try.zeroValue0
  t3 := Try.underlying3
  a3 := Try.isAgg3
  z3 := Try.sizeOf3
  v3 := Try.zeroValue3
  t4 := Try.underlying4
  a4 := Try.isAgg4
  z4 := Try.sizeOf4
  v4 := Try.zeroValue4
  t9 := Try.underlying9
  a9 := Try.isAgg9
  z9 := Try.sizeOf9
  v9 := Try.zeroValue9
  t20 := Try.underlying20
  a20 := Try.isAgg20
  z20 := Try.sizeOf20
  v20 := Try.zeroValue20
  t37 := Try.underlying39
  a37 := Try.isAgg39
  z37 := Try.sizeOf39
  v37 := Try.zeroValue39
  t70 := Try.underlying97
  a70 := Try.isAgg97
  z70 := Try.sizeOf97
  v70 := Try.zeroValue97
  t72 := Try.underlying99
  a72 := Try.isAgg99
  z72 := Try.sizeOf99
  v72 := Try.zeroValue99
  t75 := Try.underlying101
  a75 := Try.isAgg101
  z75 := Try.sizeOf101
  v75 := Try.zeroValue101
  t164 := Try.underlying132
  a164 := Try.isAgg132
  z164 := Try.sizeOf132
  v164 := Try.zeroValue132 }
theorem Try.Builder_Extra_166 : Builder.Extra Try.prog Try.lays166_ren := {
  sizeBuilder := by kernel_rfl
  liesBuilder := by kernel_rfl
  t5 := Try.underlying5
  a5 := Try.isAgg5
  z5 := Try.sizeOf5
  v5 := Try.zeroValue5
  infoByte := by kernel_rfl
  cellsByte := by kernel_rfl
  sizeByte := by kernel_rfl
  neB5 := by decide }
def Try.lays169_ren : Go.Shelf.Ren := ⟨fun | 169 => 88 | n => n, fun | 0 => 0 | 3 => 3 | 4 => 4 | 5 => 5 | 9 => 9 | 20 => 20 | 37 => 39 | 70 => 97 | 72 => 99 | 75 => 101 | 80 => 80 | 127 => 123 | 164 => 132 | n => n, fun | n => n⟩
theorem Try.lays169 : Go.Proofs.Lays.n169 Try.prog Try.lays169_ren := {
  mixed := by kernel_rfl
  f169 := Try.func88.trans (congrArg some (by kernel_rfl))
  t0 := Try.underlying0
  a0 := Try.isAgg0
  z0 := Try.sizeOf0
  v0 := Try.zeroValue0
  t3 := Try.underlying3
  a3 := Try.isAgg3
  z3 := Try.sizeOf3
  v3 := Try.zeroValue3
  t9 := Try.underlying9
  a9 := Try.isAgg9
  z9 := Try.sizeOf9
  v9 := Try.zeroValue9
  t37 := Try.underlying39
  a37 := Try.isAgg39
  z37 := Try.sizeOf39
  v37 := Try.zeroValue39
  t70 := Try.underlying97
  a70 := Try.isAgg97
  z70 := Try.sizeOf97
  v70 := Try.zeroValue97
  t72 := Try.underlying99
  a72 := Try.isAgg99
  z72 := Try.sizeOf99
  v72 := Try.zeroValue99
  t127 := Try.underlying123
  a127 := Try.isAgg123
  z127 := Try.sizeOf123
  v127 := Try.zeroValue123 }
theorem Try.Builder_Extra_169 : Builder.Extra Try.prog Try.lays169_ren := {
  sizeBuilder := by kernel_rfl
  liesBuilder := by kernel_rfl
  t5 := Try.underlying5
  a5 := Try.isAgg5
  z5 := Try.sizeOf5
  v5 := Try.zeroValue5
  infoByte := by kernel_rfl
  cellsByte := by kernel_rfl
  sizeByte := by kernel_rfl
  neB5 := by decide }
end Go.Proofs

/-!   A strings.Builder by its contracts; what it holds as a text. -/
namespace Go.Proofs.Ytpeddaljgmkomaa
open Go.RowKit
set_option linter.unusedVariables false
theorem bld_write (B b : Nat) (bs : List Value) (s : ByteArray) (w : World) (h : Lib.IsBuilder 99 5 B b bs w) (hlen : bs.length + s.size ≤ 140737488355328) (hBw : B ≤ w.heap.size) :
    Calls Try.prog 85 #[.pointer (some ⟨b, 0, none⟩), .string s] w fun e w' => e = .returned (.tuple #[.int .i64 s.size, .nilIface]) ∧ (Lib.BuilderAt 99 5 B b (.pointer (some ⟨b, 0, none⟩)) (bs ++ Lib.strCells s) w' ∧ Below B w w') :=
  Go.Proofs.Any.Builder_WriteString Go.Proofs.Try.lays166 Go.Proofs.Try.Builder_Extra_166 B b bs s w h hlen hBw
theorem bld_string (B b : Nat) (l : List UInt8) (w : World) (h : Lib.IsBuilder 99 5 B b (Lib.byteCells l) w) (hBw : B ≤ w.heap.size) :
    Calls Try.prog 88 #[.pointer (some ⟨b, 0, none⟩)] w fun e w' => e = .returned (.string ⟨l.toArray⟩) ∧ Below B w w' :=
  Go.Proofs.Any.Builder_String_any Go.Proofs.Try.lays169 Go.Proofs.Try.Builder_Extra_169 B b l w h hBw
theorem bld_call {T e : TypeId} {B b : Nat} {bs : List Value} {w w' : World} (h : Lib.IsBuilder T e B b bs w) (hb : Below w.heap.size w w') : Lib.IsBuilder T e B b bs w' := by
  have key : ∀ p, Lib.BuilderAt T e B b p bs w → Lib.BuilderAt T e B b p bs w' := fun p h => by
    have hlt := h.lt
    obtain ⟨h1, v, h2, h3, h4⟩ := h
    refine ⟨h1, v, (hb.block b hlt).trans h2, h3.kept (row := none) ⟨hb.os, hb.tape, hb.output, hb.size, fun k hk _ => hb.block k hk⟩ ?_, h4⟩
    cases hv : v.ownBlock with
    | none => exact Or.inl rfl
    | some g => exact Or.inr (by simp)
  rcases h with h | h
  · exact Or.inl (key _ h)
  · exact Or.inr (key _ h)
/-- a builder that holds a text -/
def BldIs (B b : Nat) (s : ByteArray) (w : World) : Prop := Lib.IsBuilder 99 5 B b (Lib.strCells s) w
theorem bld_new (w : World) : BldIs w.heap.size w.heap.size ⟨#[]⟩ (w.alloc (.cells #[.pointer none, .slice none 0 0] 99)) := Lib.fresh_isBuilder 99 5 w
theorem BldIs.call {B b : Nat} {s : ByteArray} {w w' : World} (h : BldIs B b s w) (hb : Below w.heap.size w w') : BldIs B b s w' := bld_call h hb
theorem BldIs.alloc {B b : Nat} {s : ByteArray} {w : World} (h : BldIs B b s w) (X : Obj) : BldIs B b s (w.alloc X) := bld_call h ((Below.refl _ _).alloc (Nat.le_refl _) _)
theorem strCells_append (a b : ByteArray) : Lib.strCells (a ++ b) = Lib.strCells a ++ Lib.strCells b := by
  rw [Lib.strCells_eq, Lib.strCells_eq, Lib.strCells_eq, ← Lib.byteCells_append]; simp
theorem bld_add (B b : Nat) (a s : ByteArray) (w : World) (h : BldIs B b a w) (hlen : a.size + s.size ≤ 140737488355328) (hBw : B ≤ w.heap.size) :
    Calls Try.prog 85 #[.pointer (some ⟨b, 0, none⟩), .string s] w fun e w' => e = .returned (.tuple #[.int .i64 s.size, .nilIface]) ∧ BldIs B b (a ++ s) w' ∧ Below B w w' :=
  (bld_write B b _ s w h (by rw [Lib.strCells_length]; exact hlen) hBw).mono fun e w' ⟨h1, h2, h3⟩ => ⟨h1, by unfold BldIs; rw [strCells_append]; exact Or.inr h2, h3⟩
theorem bld_tell (B b : Nat) (a : ByteArray) (w : World) (h : BldIs B b a w) (hBw : B ≤ w.heap.size) :
    Calls Try.prog 88 #[.pointer (some ⟨b, 0, none⟩)] w fun e w' => e = .returned (.string a) ∧ Below B w w' := by
  have h2 := bld_string B b a.data.toList w h hBw
  have e : (⟨a.data.toList.toArray⟩ : ByteArray) = a := by cases a; rfl
  rw [e] at h2
  exact h2
end Go.Proofs.Ytpeddaljgmkomaa
