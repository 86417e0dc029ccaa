/-
  Six bytes as a key, and what the map of an old text's places holds: plain mathematics.
-/
import Derived.Test.YtpeddaljgmkomaaPk20
import Derived.Test.YtpeddaljgmkomaaStepMath
namespace Go.Proofs.Ytpeddaljgmkomaa
open Go.RowKit
set_option linter.unusedVariables false
set_option linter.unusedSimpArgs false
def kL6 (bs : Nat → Nat) (j : Nat) : List Lit := [.int .u8 (bs j : Nat), .int .u8 (bs (j + 1) : Nat), .int .u8 (bs (j + 2) : Nat), .int .u8 (bs (j + 3) : Nat), .int .u8 (bs (j + 4) : Nat), .int .u8 (bs (j + 5) : Nat)]
def kl6 (bs : Nat → Nat) (j : Nat) : Lit := .string (keyBytes (kL6 bs j))
theorem kl6_iff {f g : Nat → Nat} (hf : ∀ i, f i < 256) (hg : ∀ i, g i < 256) (q j : Nat) : kl6 f q = kl6 g j ↔ ∀ i, i < 6 → f (q + i) = g (j + i) := by
  constructor
  · intro h
    have h1 : keyBytes (kL6 f q) = keyBytes (kL6 g j) := by injection h
    have h2 := keyBytes_inj (l := kL6 f q) (l' := kL6 g j) ⟨rfl, rfl, rfl, rfl, rfl, rfl, trivial⟩ (by
      intro a ha
      simp only [kL6, List.mem_cons, List.not_mem_nil, or_false] at ha
      rcases ha with rfl | rfl | rfl | rfl | rfl | rfl <;> exact u8_wf (hf _)) (by
      intro a ha
      simp only [kL6, List.mem_cons, List.not_mem_nil, or_false] at ha
      rcases ha with rfl | rfl | rfl | rfl | rfl | rfl <;> exact u8_wf (hg _)) h1
    simp only [kL6, List.cons.injEq, Lit.int.injEq, true_and, and_true] at h2
    obtain ⟨e0, e1, e2, e3, e4, e5⟩ := h2
    intro i hi
    match i, hi with
    | 0, _ => show f q = g j; omega
    | 1, _ => omega
    | 2, _ => omega
    | 3, _ => omega
    | 4, _ => omega
    | 5, _ => omega
  · intro h
    have e0 : f q = g j := h 0 (by omega)
    unfold kl6 kL6
    rw [e0, h 1 (by omega), h 2 (by omega), h 3 (by omega), h 4 (by omega), h 5 (by omega)]
theorem kl6_key (bs : Nat → Nat) (j : Nat) : WideAt.IsKeyLit (kl6 bs j) := trivial
/-- what the map holds behind i places, from the last one down -/
def C6 (bs : Nat → Nat) (top : Nat) : Nat → DataW Unit
  | 0 => .map []
  | i + 1 => (C6 bs top i).put (kl6 bs (top - 1 - i)) (.lit (.int .i64 ((top - 1 - i : Nat) : Int)))
theorem C6_map (bs : Nat → Nat) (top : Nat) : ∀ n, Maps.IsMap (C6 bs top n)
  | 0 => Maps.isMap_empty
  | n + 1 => (C6_map bs top n).put _ _
theorem C6_none {bs : Nat → Nat} {top : Nat} {K : Lit} : ∀ i, i ≤ top → (∀ q, top - i ≤ q → q < top → kl6 bs q ≠ K) → Maps.has (C6 bs top i) K = false
  | 0, _, _ => rfl
  | i + 1, hi, h => by
    have hne : K ≠ kl6 bs (top - 1 - i) := fun e => h (top - 1 - i) (by omega) (by omega) e.symm
    show Maps.has ((C6 bs top i).put _ _) _ = _
    rw [Maps.has_put_other hne]
    exact C6_none i (by omega) fun q h1 h2 => h q (by omega) h2
theorem C6_some {bs : Nat → Nat} {top : Nat} {K : Lit} {q : Nat} : ∀ i, i ≤ top → top - i ≤ q → q < top → kl6 bs q = K → (∀ r, top - i ≤ r → r < q → kl6 bs r ≠ K) →
    Maps.has (C6 bs top i) K = true ∧ ∀ z, (C6 bs top i).atKey K z = .lit (.int .i64 (q : Int))
  | 0, _, h1, h2, _, _ => by omega
  | i + 1, hi, h1, h2, hk, hr => by
    by_cases e : q = top - 1 - i
    · show Maps.has ((C6 bs top i).put (kl6 bs (top - 1 - i)) (.lit (.int .i64 ((top - 1 - i : Nat) : Int)))) _ = _ ∧ ∀ z, ((C6 bs top i).put (kl6 bs (top - 1 - i)) (.lit (.int .i64 ((top - 1 - i : Nat) : Int)))).atKey _ z = _
      rw [← e, ← hk]
      exact ⟨Maps.has_put_same (C6_map bs top i) (kl6_key bs q) _, fun z => Maps.atKey_put_same (C6_map bs top i) (kl6_key bs q) _ z⟩
    · have hne : K ≠ kl6 bs (top - 1 - i) := fun x => hr (top - 1 - i) (by omega) (by omega) x.symm
      obtain ⟨h3, h4⟩ := C6_some (bs := bs) (top := top) (K := K) (q := q) i (by omega) (by omega) h2 hk fun r a b => hr r (by omega) b
      refine ⟨?_, fun z => ?_⟩
      · show Maps.has ((C6 bs top i).put _ _) _ = _
        rw [Maps.has_put_other hne]; exact h3
      · show ((C6 bs top i).put _ _).atKey _ z = _
        rw [Maps.atKey_put_other hne]; exact h4 z
theorem C6_cases (bs : Nat → Nat) (top : Nat) (K : Lit) : ∀ i, i ≤ top → (∀ q, top - i ≤ q → q < top → kl6 bs q ≠ K) ∨ ∃ q, top - i ≤ q ∧ q < top ∧ kl6 bs q = K ∧ ∀ r, top - i ≤ r → r < q → kl6 bs r ≠ K
  | 0, _ => Or.inl fun q h1 h2 => by omega
  | i + 1, hi => by
    by_cases e : kl6 bs (top - 1 - i) = K
    · exact Or.inr ⟨top - 1 - i, by omega, by omega, e, fun r h1 h2 => by omega⟩
    · rcases C6_cases bs top K i (by omega) with h | ⟨q, h1, h2, h3, h4⟩
      · refine Or.inl fun q h1 h2 => ?_
        by_cases eq : q = top - 1 - i
        · rw [eq]; exact e
        · exact h q (by omega) h2
      · refine Or.inr ⟨q, by omega, h2, h3, fun r h5 h6 => ?_⟩
        by_cases er : r = top - 1 - i
        · rw [er]; exact e
        · exact h4 r (by omega) h6
/-- the next place with the same six bytes, 0 where there is none -/
def NX (bs : Nat → Nat) (top j v : Nat) : Prop := (v = 0 ∧ ∀ q, j < q → q < top → kl6 bs q ≠ kl6 bs j) ∨ (j < v ∧ v < top ∧ kl6 bs v = kl6 bs j ∧ ∀ q, j < q → q < v → kl6 bs q ≠ kl6 bs j)
theorem look6 {bs : Nat → Nat} {top i : Nat} (hi : i < top) (c : Int) (hc : (C6 bs top i).atKey (kl6 bs (top - 1 - i)) (.lit (.int .i64 0)) = .lit (.int .i64 c)) : ∃ v : Nat, c = (v : Int) ∧ v ≤ top ∧ NX bs top (top - 1 - i) v := by
  rcases C6_cases bs top (kl6 bs (top - 1 - i)) i (by omega) with h | ⟨q, h1, h2, h3, h4⟩
  · rw [Maps.atKey_of_not_has (C6_none i (by omega) h)] at hc
    injection hc with hc
    injection hc with _ hc
    exact ⟨0, hc.symm, Nat.zero_le _, Or.inl ⟨rfl, fun q q1 q2 => h q (by omega) q2⟩⟩
  · rw [(C6_some i (by omega) h1 h2 h3 h4).2] at hc
    injection hc with hc
    injection hc with _ hc
    exact ⟨q, hc.symm, by omega, Or.inr ⟨by omega, h2, h3, fun r r1 r2 => h4 r (by omega) r2⟩⟩
theorem keyOf_six {P : Program} {k e : TypeId} (A : WideMaps.ArrKey P k e 6) (he : P.underlying e = some (.int .u8)) (hsz : ∃ m, P.types.size = m + 1) {bs : Nat → Nat} (hb : ∀ i, bs i < 256) (j : Nat) :
    keyOf P k (.agg #[.int .u8 (bs j : Nat), .int .u8 (bs (j + 1) : Nat), .int .u8 (bs (j + 2) : Nat), .int .u8 (bs (j + 3) : Nat), .int .u8 (bs (j + 4) : Nat), .int .u8 (bs (j + 5) : Nat)]) = some (kl6 bs j) := by
  have hkt := A.keyType hsz
  obtain ⟨m, hm⟩ := hsz
  have w0 := u8_wf (hb j)
  have w1 := u8_wf (hb (j + 1))
  have w2 := u8_wf (hb (j + 2))
  have w3 := u8_wf (hb (j + 3))
  have w4 := u8_wf (hb (j + 4))
  have w5 := u8_wf (hb (j + 5))
  unfold keyOf kl6 kL6
  simp only [A.hu]
  rw [if_pos (by simp [hkt, Value.formed, A.hu, A.size]), hm]
  unfold Program.keyLits
  simp only [A.hu, Value.cells]
  rw [if_pos (by rw [A.size]; rfl), show List.range 6 = [0, 1, 2, 3, 4, 5] from rfl, List.mapM_cons, List.mapM_cons, List.mapM_cons, List.mapM_cons, List.mapM_cons, List.mapM_cons, List.mapM_nil]
  simp [A.one, Program.keyLits, he, w0, w1, w2, w3, w4, w5]
end Go.Proofs.Ytpeddaljgmkomaa
