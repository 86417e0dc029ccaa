/-
  Several texts of this seat as one: StepMath, DpM, StepC2.
-/
import Derived.Test.YtpeddaljgmkomaaPk19
import Derived.Maps.OwnSet
import Derived.Maps.Views
import Derived.WideKeyArr2
import Derived.DeepKeys5
import Derived.ChangeKeys
import Derived.Test.YtpeddaljgmkomaaPk20
import Derived.Test.YtpeddaljgmkomaaPk01
import Derived.Test.YtpeddaljgmkomaaPk02
import Derived.Laws.Rows
import Derived.Laws.MakeOwn
import Derived.Laws.OwnMore
import Derived.Lib.LazyBuf
import Derived.Lib.SlBuf
import Derived.Maps.OwnOps

/-!   Places of three bytes: what a map of them holds, and how far ahead they stood last. -/
namespace Go.Proofs.Ytpeddaljgmkomaa
open Go.RowKit
set_option linter.unusedVariables false

instance (bs : Nat → Nat) (j q : Nat) : Decidable (T3 bs j q) := inferInstanceAs (Decidable (_ ∧ _ ∧ _))
/-- how far ahead, of the first n places -/
def prevP (bs : Nat → Nat) (j : Nat) : Nat → Nat
  | 0 => 0
  | n + 1 => if T3 bs j n then j - n else prevP bs j n
theorem prevP_none {bs : Nat → Nat} {j : Nat} : ∀ n, (∀ q, q < n → ¬ T3 bs j q) → prevP bs j n = 0
  | 0, _ => rfl
  | n + 1, h => by
    show (if _ then _ else _) = _
    rw [if_neg (h n (by omega))]
    exact prevP_none n fun q hq => h q (by omega)
theorem prevP_some {bs : Nat → Nat} {j q : Nat} (hq : T3 bs j q) : ∀ n, q < n → (∀ r, q < r → r < n → ¬ T3 bs j r) → prevP bs j n = j - q
  | 0, h, _ => by omega
  | n + 1, h, hr => by
    show (if _ then _ else _) = _
    by_cases e : q = n
    · subst e; rw [if_pos hq]
    · rw [if_neg (hr n (by omega) (by omega))]
      exact prevP_some hq n (by omega) fun r h1 h2 => hr r h1 (by omega)
theorem prevP_cases (bs : Nat → Nat) (j : Nat) : ∀ n, (∀ q, q < n → ¬ T3 bs j q) ∨ ∃ q, q < n ∧ T3 bs j q ∧ ∀ r, q < r → r < n → ¬ T3 bs j r
  | 0 => Or.inl fun q h => by omega
  | n + 1 => by
    by_cases h : T3 bs j n
    · exact Or.inr ⟨n, by omega, h, fun r h1 h2 => by omega⟩
    · rcases prevP_cases bs j n with h1 | ⟨q, h1, h2, h3⟩
      · refine Or.inl fun q hq => ?_
        by_cases e : q = n
        · subst e; exact h
        · exact h1 q (by omega)
      · refine Or.inr ⟨q, by omega, h2, fun r a b => ?_⟩
        by_cases e : r = n
        · subst e; exact h
        · exact h3 r a (by omega)
def stF (bs : Nat → Nat) (L j : Nat) : Nat := if j + 3 ≤ L then prevP bs j j else 0
theorem stF_ok (bs : Nat → Nat) (L : Nat) : StOk bs L (stF bs L) := fun j hj => by
  refine ⟨fun h3 => ?_, fun h3 => by unfold stF; rw [if_neg h3]⟩
  unfold stF
  rw [if_pos h3]
  rcases prevP_cases bs j j with h | ⟨q, h1, h2, h4⟩
  · exact Or.inl ⟨prevP_none j h, h⟩
  · rw [prevP_some h2 j h1 h4]
    refine Or.inr ⟨by omega, by omega, by rwa [show j - (j - q) = q by omega], fun r a b => h4 r (by omega) b⟩
theorem stF_le (bs : Nat → Nat) (L j : Nat) : stF bs L j ≤ j := by
  unfold stF; split
  · rcases prevP_cases bs j j with h | ⟨q, h1, h2, h4⟩
    · rw [prevP_none j h]; omega
    · rw [prevP_some h2 j h1 h4]; omega
  · omega
/-- three bytes as a key -/
def kL3 (bs : Nat → Nat) (j : Nat) : List Lit := [.int .u8 (bs j : Nat), .int .u8 (bs (j + 1) : Nat), .int .u8 (bs (j + 2) : Nat)]
def kl3 (bs : Nat → Nat) (j : Nat) : Lit := .string (keyBytes (kL3 bs j))
theorem u8_wf {x : Nat} (h : x < 256) : (Lit.int .u8 (x : Int)).wf = true := by
  simp [Lit.wf, IntKind.min, IntKind.max, IntKind.signed, IntKind.bits]; omega
theorem kl3_iff {bs : Nat → Nat} (hb : ∀ i, bs i < 256) (j q : Nat) : kl3 bs q = kl3 bs j ↔ T3 bs j q := by
  constructor
  · intro h
    have h1 : keyBytes (kL3 bs q) = keyBytes (kL3 bs j) := by injection h
    have h2 := keyBytes_inj (l := kL3 bs q) (l' := kL3 bs j) ⟨rfl, rfl, rfl, trivial⟩ (by
      intro a ha
      simp only [kL3, List.mem_cons, List.not_mem_nil, or_false] at ha
      rcases ha with rfl | rfl | rfl <;> exact u8_wf (hb _)) (by
      intro a ha
      simp only [kL3, List.mem_cons, List.not_mem_nil, or_false] at ha
      rcases ha with rfl | rfl | rfl <;> exact u8_wf (hb _)) h1
    simp only [kL3, List.cons.injEq, Lit.int.injEq, true_and, and_true] at h2
    exact ⟨by omega, by omega, by omega⟩
  · rintro ⟨h1, h2, h3⟩
    unfold kl3 kL3
    rw [h1, h2, h3]
theorem kl3_key (bs : Nat → Nat) (j : Nat) : WideAt.IsKeyLit (kl3 bs j) := trivial
/-- what the map holds behind n places -/
def C3 (bs : Nat → Nat) : Nat → DataW Unit
  | 0 => .map []
  | n + 1 => (C3 bs n).put (kl3 bs n) (.lit (.int .i64 (n : Int)))
theorem C3_map (bs : Nat → Nat) : ∀ n, Maps.IsMap (C3 bs n)
  | 0 => Maps.isMap_empty
  | n + 1 => (C3_map bs n).put _ _
theorem C3_none {bs : Nat → Nat} (hb : ∀ i, bs i < 256) {j : Nat} : ∀ n, (∀ q, q < n → ¬ T3 bs j q) → Maps.has (C3 bs n) (kl3 bs j) = false
  | 0, _ => rfl
  | n + 1, h => by
    have hne : kl3 bs j ≠ kl3 bs n := fun e => h n (by omega) ((kl3_iff hb j n).1 e.symm)
    show Maps.has ((C3 bs n).put _ _) _ = _
    rw [Maps.has_put_other hne]
    exact C3_none hb n fun q hq => h q (by omega)
theorem C3_some {bs : Nat → Nat} (hb : ∀ i, bs i < 256) {j q : Nat} (hq : T3 bs j q) : ∀ n, q < n → (∀ r, q < r → r < n → ¬ T3 bs j r) →
    Maps.has (C3 bs n) (kl3 bs j) = true ∧ ∀ z, (C3 bs n).atKey (kl3 bs j) z = .lit (.int .i64 (q : Int))
  | 0, h, _ => by omega
  | n + 1, h, hr => by
    by_cases e : q = n
    · subst e
      have hk : kl3 bs q = kl3 bs j := (kl3_iff hb j q).2 hq
      show Maps.has ((C3 bs q).put (kl3 bs q) _) _ = _ ∧ ∀ z, ((C3 bs q).put (kl3 bs q) _).atKey _ z = _
      rw [← hk]
      exact ⟨Maps.has_put_same (C3_map bs q) (kl3_key bs q) _, fun z => Maps.atKey_put_same (C3_map bs q) (kl3_key bs q) _ z⟩
    · have hne : kl3 bs j ≠ kl3 bs n := fun x => hr n (by omega) (by omega) ((kl3_iff hb j n).1 x.symm)
      obtain ⟨h1, h2⟩ := C3_some hb hq n (by omega) fun r a b => hr r a (by omega)
      refine ⟨?_, fun z => ?_⟩
      · show Maps.has ((C3 bs n).put _ _) _ = _
        rw [Maps.has_put_other hne]; exact h1
      · show ((C3 bs n).put _ _).atKey _ z = _
        rw [Maps.atKey_put_other hne]; exact h2 z
/-- what the look-up tells at place j -/
theorem look3 {bs : Nat → Nat} (hb : ∀ i, bs i < 256) (j : Nat) (c : Int) (hc : (C3 bs j).atKey (kl3 bs j) (.lit (.int .i64 0)) = .lit (.int .i64 c)) :
    (Maps.has (C3 bs j) (kl3 bs j) = false ∧ prevP bs j j = 0) ∨ (Maps.has (C3 bs j) (kl3 bs j) = true ∧ ∃ q : Nat, q < j ∧ c = (q : Int) ∧ prevP bs j j = j - q) := by
  rcases prevP_cases bs j j with h | ⟨q, h1, h2, h4⟩
  · exact Or.inl ⟨C3_none hb j h, prevP_none j h⟩
  · obtain ⟨a1, a2⟩ := C3_some hb h2 j h1 h4
    refine Or.inr ⟨a1, q, h1, ?_, prevP_some h2 j h1 h4⟩
    rw [a2] at hc
    injection hc with hc
    injection hc with _ hc
    exact hc.symm
theorem keyOf_three {P : Program} {k e : TypeId} (A : WideMaps.ArrKey P k e 3) (he : P.underlying e = some (.int .u8)) (hsz : ∃ m, P.types.size = m + 1) {bs : Nat → Nat} (hb : ∀ i, bs i < 256) (j : Nat) :
    keyOf P k (.agg #[.int .u8 (bs j : Nat), .int .u8 (bs (j + 1) : Nat), .int .u8 (bs (j + 2) : Nat)]) = some (kl3 bs j) := by
  have hkt := A.keyType hsz
  obtain ⟨m, hm⟩ := hsz
  have wa := u8_wf (hb j)
  have wb := u8_wf (hb (j + 1))
  have wc := u8_wf (hb (j + 2))
  unfold keyOf kl3 kL3
  simp only [A.hu]
  rw [if_pos (by simp [hkt, Value.formed, A.hu, A.size]), hm]
  unfold Program.keyLits
  simp only [A.hu, Value.cells]
  rw [if_pos (by rw [A.size]; rfl), show List.range 3 = [0, 1, 2] from rfl, List.mapM_cons, List.mapM_cons, List.mapM_cons, List.mapM_nil]
  simp [A.one, Program.keyLits, he, wa, wb, wc]
end Go.Proofs.Ytpeddaljgmkomaa

/-!   Six bytes as a key, and what the map of an old text's places holds: plain mathematics. -/
namespace Go.Proofs.Ytpeddaljgmkomaa
open Go.RowKit
set_option linter.unusedVariables false
set_option linter.unusedSimpArgs false
def kL6 (bs : Nat → Nat) (j : Nat) : List Lit := [.int .u8 (bs j : Nat), .int .u8 (bs (j + 1) : Nat), .int .u8 (bs (j + 2) : Nat), .int .u8 (bs (j + 3) : Nat), .int .u8 (bs (j + 4) : Nat), .int .u8 (bs (j + 5) : Nat)]
def kl6 (bs : Nat → Nat) (j : Nat) : Lit := .string (keyBytes (kL6 bs j))
theorem kl6_iff {f g : Nat → Nat} (hf : ∀ i, f i < 256) (hg : ∀ i, g i < 256) (q j : Nat) : kl6 f q = kl6 g j ↔ ∀ i, i < 6 → f (q + i) = g (j + i) := by
  constructor
  · intro h
    have h1 : keyBytes (kL6 f q) = keyBytes (kL6 g j) := by injection h
    have h2 := keyBytes_inj (l := kL6 f q) (l' := kL6 g j) ⟨rfl, rfl, rfl, rfl, rfl, rfl, trivial⟩ (by
      intro a ha
      simp only [kL6, List.mem_cons, List.not_mem_nil, or_false] at ha
      rcases ha with rfl | rfl | rfl | rfl | rfl | rfl <;> exact u8_wf (hf _)) (by
      intro a ha
      simp only [kL6, List.mem_cons, List.not_mem_nil, or_false] at ha
      rcases ha with rfl | rfl | rfl | rfl | rfl | rfl <;> exact u8_wf (hg _)) h1
    simp only [kL6, List.cons.injEq, Lit.int.injEq, true_and, and_true] at h2
    obtain ⟨e0, e1, e2, e3, e4, e5⟩ := h2
    intro i hi
    match i, hi with
    | 0, _ => show f q = g j; omega
    | 1, _ => omega
    | 2, _ => omega
    | 3, _ => omega
    | 4, _ => omega
    | 5, _ => omega
  · intro h
    have e0 : f q = g j := h 0 (by omega)
    unfold kl6 kL6
    rw [e0, h 1 (by omega), h 2 (by omega), h 3 (by omega), h 4 (by omega), h 5 (by omega)]
theorem kl6_key (bs : Nat → Nat) (j : Nat) : WideAt.IsKeyLit (kl6 bs j) := trivial
/-- what the map holds behind i places, from the last one down -/
def C6 (bs : Nat → Nat) (top : Nat) : Nat → DataW Unit
  | 0 => .map []
  | i + 1 => (C6 bs top i).put (kl6 bs (top - 1 - i)) (.lit (.int .i64 ((top - 1 - i : Nat) : Int)))
theorem C6_map (bs : Nat → Nat) (top : Nat) : ∀ n, Maps.IsMap (C6 bs top n)
  | 0 => Maps.isMap_empty
  | n + 1 => (C6_map bs top n).put _ _
theorem C6_none {bs : Nat → Nat} {top : Nat} {K : Lit} : ∀ i, i ≤ top → (∀ q, top - i ≤ q → q < top → kl6 bs q ≠ K) → Maps.has (C6 bs top i) K = false
  | 0, _, _ => rfl
  | i + 1, hi, h => by
    have hne : K ≠ kl6 bs (top - 1 - i) := fun e => h (top - 1 - i) (by omega) (by omega) e.symm
    show Maps.has ((C6 bs top i).put _ _) _ = _
    rw [Maps.has_put_other hne]
    exact C6_none i (by omega) fun q h1 h2 => h q (by omega) h2
theorem C6_some {bs : Nat → Nat} {top : Nat} {K : Lit} {q : Nat} : ∀ i, i ≤ top → top - i ≤ q → q < top → kl6 bs q = K → (∀ r, top - i ≤ r → r < q → kl6 bs r ≠ K) →
    Maps.has (C6 bs top i) K = true ∧ ∀ z, (C6 bs top i).atKey K z = .lit (.int .i64 (q : Int))
  | 0, _, h1, h2, _, _ => by omega
  | i + 1, hi, h1, h2, hk, hr => by
    by_cases e : q = top - 1 - i
    · show Maps.has ((C6 bs top i).put (kl6 bs (top - 1 - i)) (.lit (.int .i64 ((top - 1 - i : Nat) : Int)))) _ = _ ∧ ∀ z, ((C6 bs top i).put (kl6 bs (top - 1 - i)) (.lit (.int .i64 ((top - 1 - i : Nat) : Int)))).atKey _ z = _
      rw [← e, ← hk]
      exact ⟨Maps.has_put_same (C6_map bs top i) (kl6_key bs q) _, fun z => Maps.atKey_put_same (C6_map bs top i) (kl6_key bs q) _ z⟩
    · have hne : K ≠ kl6 bs (top - 1 - i) := fun x => hr (top - 1 - i) (by omega) (by omega) x.symm
      obtain ⟨h3, h4⟩ := C6_some (bs := bs) (top := top) (K := K) (q := q) i (by omega) (by omega) h2 hk fun r a b => hr r (by omega) b
      refine ⟨?_, fun z => ?_⟩
      · show Maps.has ((C6 bs top i).put _ _) _ = _
        rw [Maps.has_put_other hne]; exact h3
      · show ((C6 bs top i).put _ _).atKey _ z = _
        rw [Maps.atKey_put_other hne]; exact h4 z
theorem C6_cases (bs : Nat → Nat) (top : Nat) (K : Lit) : ∀ i, i ≤ top → (∀ q, top - i ≤ q → q < top → kl6 bs q ≠ K) ∨ ∃ q, top - i ≤ q ∧ q < top ∧ kl6 bs q = K ∧ ∀ r, top - i ≤ r → r < q → kl6 bs r ≠ K
  | 0, _ => Or.inl fun q h1 h2 => by omega
  | i + 1, hi => by
    by_cases e : kl6 bs (top - 1 - i) = K
    · exact Or.inr ⟨top - 1 - i, by omega, by omega, e, fun r h1 h2 => by omega⟩
    · rcases C6_cases bs top K i (by omega) with h | ⟨q, h1, h2, h3, h4⟩
      · refine Or.inl fun q h1 h2 => ?_
        by_cases eq : q = top - 1 - i
        · rw [eq]; exact e
        · exact h q (by omega) h2
      · refine Or.inr ⟨q, by omega, h2, h3, fun r h5 h6 => ?_⟩
        by_cases er : r = top - 1 - i
        · rw [er]; exact e
        · exact h4 r (by omega) h6
/-- the next place with the same six bytes, 0 where there is none -/
def NX (bs : Nat → Nat) (top j v : Nat) : Prop := (v = 0 ∧ ∀ q, j < q → q < top → kl6 bs q ≠ kl6 bs j) ∨ (j < v ∧ v < top ∧ kl6 bs v = kl6 bs j ∧ ∀ q, j < q → q < v → kl6 bs q ≠ kl6 bs j)
theorem look6 {bs : Nat → Nat} {top i : Nat} (hi : i < top) (c : Int) (hc : (C6 bs top i).atKey (kl6 bs (top - 1 - i)) (.lit (.int .i64 0)) = .lit (.int .i64 c)) : ∃ v : Nat, c = (v : Int) ∧ v ≤ top ∧ NX bs top (top - 1 - i) v := by
  rcases C6_cases bs top (kl6 bs (top - 1 - i)) i (by omega) with h | ⟨q, h1, h2, h3, h4⟩
  · rw [Maps.atKey_of_not_has (C6_none i (by omega) h)] at hc
    injection hc with hc
    injection hc with _ hc
    exact ⟨0, hc.symm, Nat.zero_le _, Or.inl ⟨rfl, fun q q1 q2 => h q (by omega) q2⟩⟩
  · rw [(C6_some i (by omega) h1 h2 h3 h4).2] at hc
    injection hc with hc
    injection hc with _ hc
    exact ⟨q, hc.symm, by omega, Or.inr ⟨by omega, h2, h3, fun r r1 r2 => h4 r (by omega) r2⟩⟩
theorem keyOf_six {P : Program} {k e : TypeId} (A : WideMaps.ArrKey P k e 6) (he : P.underlying e = some (.int .u8)) (hsz : ∃ m, P.types.size = m + 1) {bs : Nat → Nat} (hb : ∀ i, bs i < 256) (j : Nat) :
    keyOf P k (.agg #[.int .u8 (bs j : Nat), .int .u8 (bs (j + 1) : Nat), .int .u8 (bs (j + 2) : Nat), .int .u8 (bs (j + 3) : Nat), .int .u8 (bs (j + 4) : Nat), .int .u8 (bs (j + 5) : Nat)]) = some (kl6 bs j) := by
  have hkt := A.keyType hsz
  obtain ⟨m, hm⟩ := hsz
  have w0 := u8_wf (hb j)
  have w1 := u8_wf (hb (j + 1))
  have w2 := u8_wf (hb (j + 2))
  have w3 := u8_wf (hb (j + 3))
  have w4 := u8_wf (hb (j + 4))
  have w5 := u8_wf (hb (j + 5))
  unfold keyOf kl6 kL6
  simp only [A.hu]
  rw [if_pos (by simp [hkt, Value.formed, A.hu, A.size]), hm]
  unfold Program.keyLits
  simp only [A.hu, Value.cells]
  rw [if_pos (by rw [A.size]; rfl), show List.range 6 = [0, 1, 2, 3, 4, 5] from rfl, List.mapM_cons, List.mapM_cons, List.mapM_cons, List.mapM_cons, List.mapM_cons, List.mapM_cons, List.mapM_nil]
  simp [A.one, Program.keyLits, he, w0, w1, w2, w3, w4, w5]
end Go.Proofs.Ytpeddaljgmkomaa

/-!   How far ahead of each place its three bytes stood last: the code's, by a map. -/
namespace Go.Proofs.Ytpeddaljgmkomaa
open Go.RowKit
open Go.Maps (Keyed)
set_option linter.unusedVariables false
set_option linter.unusedSimpArgs false

theorem Try.infi : (Try.prog.info? 3).map (fun i => (i.zero, i.size, i.bytes)) = some (some (.int .i64 0), 1, 8) := by kernel_rfl
def zI (m : Nat) : Array Value := madeCells #[Value.int .i64 0] m
theorem zI_at {m j : Nat} (h : j < m) : (zI m)[j]? = some (.int .i64 0) := by
  rw [← Array.getElem?_toList, zI, toList_madeCells_one, List.getElem?_replicate, if_pos h]
theorem zI_made (m : Nat) (hm : m ≤ 4000) (W : World) : (Instr.makeSlice 116 (.int .i64 (m : Int)) (.int .i64 (m : Int))).run Try.prog W = .ok (.slice (some ⟨W.heap.size, 0, none⟩) m m) (W.alloc (.cells (zI m) 3)) := by
  obtain ⟨i0, hi, hz0, hz1, hz2⟩ := info_parts Try.infi
  have h := run_make (P := Try.prog) W 116 3 i0 (.int .i64 0) Try.underlying116 hi hz0 .i64 .i64 (m : Int) (m : Int) (by omega) (by omega) (by rw [hz2]; omega) (by omega)
  have e : madeCells (Value.int .i64 0).cells ((m : Int).toNat * i0.size) = zI m := by rw [hz1, Int.toNat_natCast, Nat.mul_one]; rfl
  rw [e] at h
  simpa using h
theorem types_some : ∃ m, Try.prog.types.size = m + 1 := ⟨Try.prog.types.size - 1, by kernel_rfl⟩
theorem zeroI (w : World) : (zeroValue 3).run Try.prog w = .ok (.int .i64 0) w := by kernel_rfl
theorem three_set {X : Array Value} (hX : X.size = 3) (a b c : Value) : ((X.setIfInBounds 0 a).setIfInBounds 1 b).setIfInBounds 2 c = #[a, b, c] := by
  obtain ⟨l⟩ := X
  match l, hX with
  | [x, y, z], _ => rfl
theorem hold_goal {p : Prop} (h : Hid p) : p := h.out
end Go.Proofs.Ytpeddaljgmkomaa
