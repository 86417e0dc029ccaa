/-
  Several texts of this seat as one: SrM, ShelfB, BldK.
-/
import Derived.Test.YtbkjcngehhdchaaPk29
import Derived.Shelf.Strings.Builder1
import Derived.Test.YtbkjcngehhdchaaRows
import Derived.Shelf.Strings.BuilderK
import Derived.Below
import Derived.Lib.AppendStr
import Derived.Lib.UnsafeStr
import Derived.Lib.OthersKept
import Derived.Laws.Strings

/-!   What a block of members says, as it is read: plain mathematics, goes on. -/
namespace Go.Proofs.Ytbkjcngehhdchaa
open Go.RowKit
set_option linter.unusedVariables false
set_option linter.unusedSimpArgs false
theorem gD_app (L : List (ByteArray × Nat)) (p : ByteArray × Nat) {j : Nat} (h : j < L.length) : (L ++ [p]).getD j (⟨#[]⟩, 0) = L.getD j (⟨#[]⟩, 0) := by
  rw [List.getD_eq_getElem?_getD, List.getD_eq_getElem?_getD, List.getElem?_append_left h]
theorem gD_end (L : List (ByteArray × Nat)) (p : ByteArray × Nat) {j : Nat} (h : j = L.length) : (L ++ [p]).getD j (⟨#[]⟩, 0) = p := by
  subst h
  rw [List.getD_eq_getElem?_getD, List.getElem?_append_right (Nat.le_refl _), Nat.sub_self]; rfl
theorem szS_app (L : List (ByteArray × Nat)) (p : ByteArray × Nat) : ∀ i, i ≤ L.length → szS (L ++ [p]) i = szS L i
  | 0, _ => rfl
  | i + 1, h => by
    show szS (L ++ [p]) i + ((L ++ [p]).getD i (⟨#[]⟩, 0)).2 = szS L i + (L.getD i (⟨#[]⟩, 0)).2
    rw [szS_app L p i (by omega), gD_app L p (by omega)]
theorem szS_end (L : List (ByteArray × Nat)) (p : ByteArray × Nat) {i : Nat} (h : i = L.length) : szS (L ++ [p]) (i + 1) = szS L i + p.2 := by
  show szS (L ++ [p]) i + ((L ++ [p]).getD i (⟨#[]⟩, 0)).2 = _
  rw [szS_app L p i (by omega), gD_end L p h]
/-- the bytes of the first names -/
def naS (L : List (ByteArray × Nat)) : Nat → Nat
  | 0 => 0
  | i + 1 => naS L i + (L.getD i (⟨#[]⟩, 0)).1.size
theorem naS_app (L : List (ByteArray × Nat)) (p : ByteArray × Nat) : ∀ i, i ≤ L.length → naS (L ++ [p]) i = naS L i
  | 0, _ => rfl
  | i + 1, h => by
    show naS (L ++ [p]) i + ((L ++ [p]).getD i (⟨#[]⟩, 0)).1.size = naS L i + (L.getD i (⟨#[]⟩, 0)).1.size
    rw [naS_app L p i (by omega), gD_app L p (by omega)]
theorem datI_sum {s d r : ByteArray} (h : datI s = some (d, r)) : d.size + r.size ≤ s.size := by
  cases hn : numI s with
  | none => rw [datI_numn hn] at h; cases h
  | some q =>
    obtain ⟨n, t⟩ := q
    have hb := (numI_bd hn).2
    by_cases hc : n ≤ 100000 ∧ n ≤ t.size
    · rw [datI_num hn hc.1 hc.2] at h
      cases h
      rw [ByteArray.size_extract, ByteArray.size_extract]; omega
    · rw [datI_numb hn hc] at h; cases h
theorem naI_tot {r : ByteArray} : ∀ {i : Nat} {L : List (ByteArray × Nat)} {r' : ByteArray}, naI r i = some (L, r') → naS L i + r'.size ≤ r.size
  | 0, L, r', h => by
    unfold naI at h
    cases h
    show 0 + r.size ≤ r.size; omega
  | i + 1, L, r', h => by
    unfold naI at h
    cases h0 : naI r i with
    | none => rw [h0] at h; cases h
    | some q =>
      obtain ⟨L0, r1⟩ := q
      rw [h0] at h
      simp only [] at h
      have a0 := naI_tot h0
      have al := (naI_bd h0).1
      cases h1 : datI r1 with
      | none => rw [h1] at h; cases h
      | some q1 =>
        obtain ⟨a, r2⟩ := q1
        rw [h1] at h
        simp only [] at h
        have b1 := datI_sum h1
        cases h2 : numI r2 with
        | none => rw [h2] at h; cases h
        | some q2 =>
          obtain ⟨z, r3⟩ := q2
          rw [h2] at h
          have c2 := (numI_bd h2).2
          cases h
          show naS (L0 ++ [(a, z)]) i + ((L0 ++ [(a, z)]).getD i (⟨#[]⟩, 0)).1.size + _ ≤ _
          rw [naS_app L0 _ i (by omega), gD_end L0 _ al.symm]
          show naS L0 i + a.size + _ ≤ _
          omega
theorem mOf_tot (L : List (ByteArray × Nat)) (d : ByteArray) : ∀ i, mbTot (mOf L d) i ≤ naS L i + szS L i
  | 0 => Nat.le_refl _
  | i + 1 => by
    have h := mOf_tot L d i
    have h2 : (d.extract (szS L i) (szS L (i + 1))).size ≤ (L.getD i (⟨#[]⟩, 0)).2 := by
      rw [ByteArray.size_extract]
      have : szS L (i + 1) = szS L i + (L.getD i (⟨#[]⟩, 0)).2 := rfl
      omega
    show mbTot (mOf L d) i + ((L.getD i (⟨#[]⟩, 0)).1.size + (d.extract (szS L i) (szS L (i + 1))).size) ≤ naS L i + (L.getD i (⟨#[]⟩, 0)).1.size + (szS L i + (L.getD i (⟨#[]⟩, 0)).2)
    omega
theorem mbTot_same {F G : Nat → MbI} : ∀ n, (∀ i, i < n → F i = G i) → mbTot F n = mbTot G n
  | 0, _ => rfl
  | n + 1, h => by
    show mbTot F n + ((F n).a.size + (F n).d.size) = mbTot G n + ((G n).a.size + (G n).d.size)
    rw [mbTot_same n (fun i hi => h i (by omega)), h n (by omega)]
theorem mL_le {r r1 d : ByteArray} {n : Nat} {L : List (ByteArray × Nat)} (hr : r.size ≤ 1048576) (h1 : naI r n = some (L, r1)) (hn : n ≤ 60) (hz : szS L n ≤ 4000) : MbLe (mbF (mL L d)) n := by
  have a := naI_tot h1
  have b := (naI_bd h1).1
  have c := mOf_tot L d n
  have e := mbTot_same n (F := mbF (mL L d)) (G := mOf L d) (fun i hi => mL_at L d (by omega))
  exact ⟨by omega, by rw [e]; omega⟩
/-- a row of members, by its cells -/
theorem row2_of (C : Array Value) (n : Nat) (L : List MbI) (hn : L.length = n) (hs : C.size = 2 * n) (h0 : ∀ j, j < n → C[2 * j]? = some (.string (mbF L j).a)) (h1 : ∀ j, j < n → C[2 * j + 1]? = some (.string (mbF L j).d)) : C.toList.take (n * 2) = mbC L := by
  apply List.ext_getElem?
  intro k
  rw [List.getElem?_take]
  by_cases hk : k < n * 2
  · rw [if_pos hk]
    have e : C.toList[k]? = C[k]? := by simp
    rw [e]
    rcases Nat.mod_two_eq_zero_or_one k with q | q
    · obtain ⟨j, rfl⟩ : ∃ j, k = 2 * j := ⟨k / 2, by omega⟩
      rw [h0 j (by omega), (mbC_at L j (by omega)).1]
    · obtain ⟨j, rfl⟩ : ∃ j, k = 2 * j + 1 := ⟨k / 2, by omega⟩
      rw [h1 j (by omega), (mbC_at L j (by omega)).2]
  · rw [if_neg hk]
    symm
    apply List.getElem?_eq_none
    rw [mbC_len]; omega
theorem made2_at (n j : Nat) (h : j < n) : (madeCells (Value.agg #[.string ⟨#[]⟩, .string ⟨#[]⟩]).cells (n * 2))[2 * j + 1]? = some (.string ⟨#[]⟩) := by
  have hc : (Value.agg #[.string ⟨#[]⟩, .string ⟨#[]⟩]).cells = #[.string ⟨#[]⟩, .string ⟨#[]⟩] := rfl
  have hm : (2 * j + 1) % 2 = 1 := by omega
  unfold madeCells
  rw [hc, Array.getElem?_map, Array.getElem?_eq_getElem (by simp; omega), Array.getElem_range]
  show some ((#[Value.string ⟨#[]⟩, .string ⟨#[]⟩] : Array Value)[(2 * j + 1) % 2]!) = _
  rw [hm]; rfl
end Go.Proofs.Ytbkjcngehhdchaa

/-!   The contracts of strings.Builder: WriteString and String. -/
namespace Go.Proofs
open Go.Shelf
def Try.lays166_ren : Go.Shelf.Ren := ⟨fun | 166 => 32 | 240 => 54 | 276 => 76 | n => n, fun | 0 => 0 | 3 => 3 | 4 => 4 | 5 => 5 | 9 => 9 | 20 => 20 | 37 => 36 | 70 => 53 | 72 => 55 | 75 => 57 | 80 => 61 | 127 => 85 | 164 => 115 | n => n, fun | n => n⟩
theorem Try.lays166 : Go.Proofs.Lays.n166 Try.prog Try.lays166_ren := {
  mixed := by kernel_rfl
  f166 := Try.func32.trans (congrArg some (by kernel_rfl))
  f240 := Try.func54.trans (congrArg some (by kernel_rfl))
  f276 := Try.func76.trans (congrArg some (by kernel_rfl))
  t0 := Try.underlying0
  a0 := Try.isAgg0
  z0 := Try.sizeOf0
  v0 := Try.zeroValue0
  t3 := Try.underlying3
  a3 := Try.isAgg3
  z3 := Try.sizeOf3
  v3 := Try.zeroValue3
  t4 := Try.underlying4
  a4 := Try.isAgg4
  z4 := Try.sizeOf4
  v4 := Try.zeroValue4
  t9 := Try.underlying9
  a9 := Try.isAgg9
  z9 := Try.sizeOf9
  v9 := Try.zeroValue9
  t20 := Try.underlying20
  a20 := Try.isAgg20
  z20 := Try.sizeOf20
  v20 := Try.zeroValue20
  t37 := Try.underlying36
  a37 := Try.isAgg36
  z37 := Try.sizeOf36
  v37 := Try.zeroValue36
  t70 := Try.underlying53
  a70 := Try.isAgg53
  z70 := Try.sizeOf53
  v70 := Try.zeroValue53
  t72 := Try.underlying55
  a72 := Try.isAgg55
  z72 := Try.sizeOf55
  v72 := Try.zeroValue55
  t75 := Try.underlying57
  a75 := Try.isAgg57
  z75 := Try.sizeOf57
  v75 := Try.zeroValue57
  t164 := Try.underlying115
  a164 := Try.isAgg115
  z164 := Try.sizeOf115
  v164 := Try.zeroValue115 }
theorem Try.Builder_Extra_166 : Builder.Extra Try.prog Try.lays166_ren := {
  sizeBuilder := by kernel_rfl
  liesBuilder := by kernel_rfl
  t5 := Try.underlying5
  a5 := Try.isAgg5
  z5 := Try.sizeOf5
  v5 := Try.zeroValue5
  infoByte := by kernel_rfl
  cellsByte := by kernel_rfl
  sizeByte := by kernel_rfl
  neB5 := by decide }
def Try.lays169_ren : Go.Shelf.Ren := ⟨fun | 169 => 36 | n => n, fun | 0 => 0 | 3 => 3 | 4 => 4 | 5 => 5 | 9 => 9 | 20 => 20 | 37 => 36 | 70 => 53 | 72 => 55 | 75 => 57 | 80 => 61 | 127 => 85 | 164 => 115 | n => n, fun | n => n⟩
theorem Try.lays169 : Go.Proofs.Lays.n169 Try.prog Try.lays169_ren := {
  mixed := by kernel_rfl
  f169 := Try.func36.trans (congrArg some (by kernel_rfl))
  t0 := Try.underlying0
  a0 := Try.isAgg0
  z0 := Try.sizeOf0
  v0 := Try.zeroValue0
  t3 := Try.underlying3
  a3 := Try.isAgg3
  z3 := Try.sizeOf3
  v3 := Try.zeroValue3
  t9 := Try.underlying9
  a9 := Try.isAgg9
  z9 := Try.sizeOf9
  v9 := Try.zeroValue9
  t37 := Try.underlying36
  a37 := Try.isAgg36
  z37 := Try.sizeOf36
  v37 := Try.zeroValue36
  t70 := Try.underlying53
  a70 := Try.isAgg53
  z70 := Try.sizeOf53
  v70 := Try.zeroValue53
  t72 := Try.underlying55
  a72 := Try.isAgg55
  z72 := Try.sizeOf55
  v72 := Try.zeroValue55
  t127 := Try.underlying85
  a127 := Try.isAgg85
  z127 := Try.sizeOf85
  v127 := Try.zeroValue85 }
theorem Try.Builder_Extra_169 : Builder.Extra Try.prog Try.lays169_ren := {
  sizeBuilder := by kernel_rfl
  liesBuilder := by kernel_rfl
  t5 := Try.underlying5
  a5 := Try.isAgg5
  z5 := Try.sizeOf5
  v5 := Try.zeroValue5
  infoByte := by kernel_rfl
  cellsByte := by kernel_rfl
  sizeByte := by kernel_rfl
  neB5 := by decide }
end Go.Proofs

/-!   A strings.Builder by its contracts, with what it leaves beside itself. -/
namespace Go.Proofs.Ytbkjcngehhdchaa
open Go.RowKit
set_option linter.unusedVariables false
/-- a builder that holds a text -/
def BldK (B b : Nat) (s : ByteArray) (w : World) : Prop := Lib.IsBuilderF 55 5 B b (Lib.strCells s) w
theorem bldk_new (w : World) : BldK w.heap.size w.heap.size ⟨#[]⟩ (w.alloc (.cells #[.pointer none, .slice none 0 0] 55)) := Lib.IsBuilderF.of (Lib.fresh_isBuilder 55 5 w)
theorem BldK.call {B b : Nat} {s : ByteArray} {w w' : World} (h : BldK B b s w) (hb : Below w.heap.size w w') : BldK B b s w' := by
  have key : ∀ p, Lib.BuilderAtF 55 5 B b p (Lib.strCells s) w → Lib.BuilderAtF 55 5 B b p (Lib.strCells s) w' := fun p h => by
    have hlt := h.lt
    obtain ⟨h1, v, h2, h3, h4⟩ := h
    refine ⟨h1, v, (hb.block b hlt).trans h2, h3.kept (row := none) ⟨hb.os, hb.tape, hb.output, hb.size, fun k hk _ => hb.block k hk⟩ ?_, h4⟩
    cases hv : v.ownBlock with
    | none => exact Or.inl rfl
    | some g => exact Or.inr (by simp)
  rcases h with h | h
  · exact Or.inl (key _ h)
  · exact Or.inr (key _ h)
theorem BldK.alloc {B b : Nat} {s : ByteArray} {w : World} (h : BldK B b s w) (X : Obj) : BldK B b s (w.alloc X) := h.call ((Below.refl _ _).alloc (Nat.le_refl _) _)
theorem BldK.lt {B b : Nat} {s : ByteArray} {w : World} (h : BldK B b s w) : b < w.heap.size := by
  rcases h with h | h
  · exact Lib.BuilderAtF.lt h
  · exact Lib.BuilderAtF.lt h
theorem strCells_appendK (a b : ByteArray) : Lib.strCells (a ++ b) = Lib.strCells a ++ Lib.strCells b := by
  rw [Lib.strCells_eq, Lib.strCells_eq, Lib.strCells_eq, ← Lib.byteCells_append]; simp
/-- what a write leaves: every block of cells that is neither the builder nor bytes -/
def KeepB (b : Nat) (w w' : World) : Prop := ∀ (k : Nat) (cs : Array Value) (t : TypeId) (m : Nat × Nat), w.heap[k]? = some (.cells cs t m) → k ≠ b → t ≠ 5 → w'.heap[k]? = some (.cells cs t m)
theorem bldk_add (B b : Nat) (a s : ByteArray) (w : World) (h : BldK B b a w) (hlen : a.size + s.size ≤ 140737488355328) (hBw : B ≤ w.heap.size) :
    Calls Try.prog 32 #[.pointer (some ⟨b, 0, none⟩), .string s] w fun e w' => e = .returned (.tuple #[.int .i64 s.size, .nilIface]) ∧ BldK B b (a ++ s) w' ∧ Below B w w' ∧ KeepB b w w' :=
  (Go.Proofs.Any.Builder_WriteString_k Go.Proofs.Try.lays166 Go.Proofs.Try.Builder_Extra_166 B b _ s w h (by rw [Lib.strCells_length]; exact hlen) hBw).mono fun e w' ⟨h1, h2, h3, h4⟩ => ⟨h1, by unfold BldK; rw [strCells_appendK]; exact Or.inr h2, h3, fun k cs t m q1 q2 q3 => h4 k _ q1 (fun e => q2 (Option.some.inj e)) (fun c fz e => q3 (by injection e))⟩
theorem bldk_tell (B b : Nat) (a : ByteArray) (w : World) (h : BldK B b a w) (hBw : B ≤ w.heap.size) :
    Calls Try.prog 36 #[.pointer (some ⟨b, 0, none⟩)] w fun e w' => e = .returned (.string a) ∧ Below B w w' := by
  have h2 := Go.Proofs.Any.Builder_String_any_f Go.Proofs.Try.lays169 Go.Proofs.Try.Builder_Extra_169 B b a.data.toList w h hBw
  have e : (⟨a.data.toList.toArray⟩ : ByteArray) = a := by cases a; rfl
  rw [e] at h2
  exact h2.mono fun e w' h => ⟨h.1, h.2.2⟩
end Go.Proofs.Ytbkjcngehhdchaa
