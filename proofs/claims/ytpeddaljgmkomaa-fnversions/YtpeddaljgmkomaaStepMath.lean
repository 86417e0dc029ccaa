/-
  Places of three bytes: what a map of them holds, and how far ahead they stood last.
-/
import Derived.Test.YtpeddaljgmkomaaPk19
import Derived.Maps.OwnSet
import Derived.Maps.Views
import Derived.WideKeyArr2
import Derived.DeepKeys5
import Derived.ChangeKeys
namespace Go.Proofs.Ytpeddaljgmkomaa
open Go.RowKit
set_option linter.unusedVariables false

instance (bs : Nat → Nat) (j q : Nat) : Decidable (T3 bs j q) := inferInstanceAs (Decidable (_ ∧ _ ∧ _))
/-- how far ahead, of the first n places -/
def prevP (bs : Nat → Nat) (j : Nat) : Nat → Nat
  | 0 => 0
  | n + 1 => if T3 bs j n then j - n else prevP bs j n
theorem prevP_none {bs : Nat → Nat} {j : Nat} : ∀ n, (∀ q, q < n → ¬ T3 bs j q) → prevP bs j n = 0
  | 0, _ => rfl
  | n + 1, h => by
    show (if _ then _ else _) = _
    rw [if_neg (h n (by omega))]
    exact prevP_none n fun q hq => h q (by omega)
theorem prevP_some {bs : Nat → Nat} {j q : Nat} (hq : T3 bs j q) : ∀ n, q < n → (∀ r, q < r → r < n → ¬ T3 bs j r) → prevP bs j n = j - q
  | 0, h, _ => by omega
  | n + 1, h, hr => by
    show (if _ then _ else _) = _
    by_cases e : q = n
    · subst e; rw [if_pos hq]
    · rw [if_neg (hr n (by omega) (by omega))]
      exact prevP_some hq n (by omega) fun r h1 h2 => hr r h1 (by omega)
theorem prevP_cases (bs : Nat → Nat) (j : Nat) : ∀ n, (∀ q, q < n → ¬ T3 bs j q) ∨ ∃ q, q < n ∧ T3 bs j q ∧ ∀ r, q < r → r < n → ¬ T3 bs j r
  | 0 => Or.inl fun q h => by omega
  | n + 1 => by
    by_cases h : T3 bs j n
    · exact Or.inr ⟨n, by omega, h, fun r h1 h2 => by omega⟩
    · rcases prevP_cases bs j n with h1 | ⟨q, h1, h2, h3⟩
      · refine Or.inl fun q hq => ?_
        by_cases e : q = n
        · subst e; exact h
        · exact h1 q (by omega)
      · refine Or.inr ⟨q, by omega, h2, fun r a b => ?_⟩
        by_cases e : r = n
        · subst e; exact h
        · exact h3 r a (by omega)
def stF (bs : Nat → Nat) (L j : Nat) : Nat := if j + 3 ≤ L then prevP bs j j else 0
theorem stF_ok (bs : Nat → Nat) (L : Nat) : StOk bs L (stF bs L) := fun j hj => by
  refine ⟨fun h3 => ?_, fun h3 => by unfold stF; rw [if_neg h3]⟩
  unfold stF
  rw [if_pos h3]
  rcases prevP_cases bs j j with h | ⟨q, h1, h2, h4⟩
  · exact Or.inl ⟨prevP_none j h, h⟩
  · rw [prevP_some h2 j h1 h4]
    refine Or.inr ⟨by omega, by omega, by rwa [show j - (j - q) = q by omega], fun r a b => h4 r (by omega) b⟩
theorem stF_le (bs : Nat → Nat) (L j : Nat) : stF bs L j ≤ j := by
  unfold stF; split
  · rcases prevP_cases bs j j with h | ⟨q, h1, h2, h4⟩
    · rw [prevP_none j h]; omega
    · rw [prevP_some h2 j h1 h4]; omega
  · omega
/-- three bytes as a key -/
def kL3 (bs : Nat → Nat) (j : Nat) : List Lit := [.int .u8 (bs j : Nat), .int .u8 (bs (j + 1) : Nat), .int .u8 (bs (j + 2) : Nat)]
def kl3 (bs : Nat → Nat) (j : Nat) : Lit := .string (keyBytes (kL3 bs j))
theorem u8_wf {x : Nat} (h : x < 256) : (Lit.int .u8 (x : Int)).wf = true := by
  simp [Lit.wf, IntKind.min, IntKind.max, IntKind.signed, IntKind.bits]; omega
theorem kl3_iff {bs : Nat → Nat} (hb : ∀ i, bs i < 256) (j q : Nat) : kl3 bs q = kl3 bs j ↔ T3 bs j q := by
  constructor
  · intro h
    have h1 : keyBytes (kL3 bs q) = keyBytes (kL3 bs j) := by injection h
    have h2 := keyBytes_inj (l := kL3 bs q) (l' := kL3 bs j) ⟨rfl, rfl, rfl, trivial⟩ (by
      intro a ha
      simp only [kL3, List.mem_cons, List.not_mem_nil, or_false] at ha
      rcases ha with rfl | rfl | rfl <;> exact u8_wf (hb _)) (by
      intro a ha
      simp only [kL3, List.mem_cons, List.not_mem_nil, or_false] at ha
      rcases ha with rfl | rfl | rfl <;> exact u8_wf (hb _)) h1
    simp only [kL3, List.cons.injEq, Lit.int.injEq, true_and, and_true] at h2
    exact ⟨by omega, by omega, by omega⟩
  · rintro ⟨h1, h2, h3⟩
    unfold kl3 kL3
    rw [h1, h2, h3]
theorem kl3_key (bs : Nat → Nat) (j : Nat) : WideAt.IsKeyLit (kl3 bs j) := trivial
/-- what the map holds behind n places -/
def C3 (bs : Nat → Nat) : Nat → DataW Unit
  | 0 => .map []
  | n + 1 => (C3 bs n).put (kl3 bs n) (.lit (.int .i64 (n : Int)))
theorem C3_map (bs : Nat → Nat) : ∀ n, Maps.IsMap (C3 bs n)
  | 0 => Maps.isMap_empty
  | n + 1 => (C3_map bs n).put _ _
theorem C3_none {bs : Nat → Nat} (hb : ∀ i, bs i < 256) {j : Nat} : ∀ n, (∀ q, q < n → ¬ T3 bs j q) → Maps.has (C3 bs n) (kl3 bs j) = false
  | 0, _ => rfl
  | n + 1, h => by
    have hne : kl3 bs j ≠ kl3 bs n := fun e => h n (by omega) ((kl3_iff hb j n).1 e.symm)
    show Maps.has ((C3 bs n).put _ _) _ = _
    rw [Maps.has_put_other hne]
    exact C3_none hb n fun q hq => h q (by omega)
theorem C3_some {bs : Nat → Nat} (hb : ∀ i, bs i < 256) {j q : Nat} (hq : T3 bs j q) : ∀ n, q < n → (∀ r, q < r → r < n → ¬ T3 bs j r) →
    Maps.has (C3 bs n) (kl3 bs j) = true ∧ ∀ z, (C3 bs n).atKey (kl3 bs j) z = .lit (.int .i64 (q : Int))
  | 0, h, _ => by omega
  | n + 1, h, hr => by
    by_cases e : q = n
    · subst e
      have hk : kl3 bs q = kl3 bs j := (kl3_iff hb j q).2 hq
      show Maps.has ((C3 bs q).put (kl3 bs q) _) _ = _ ∧ ∀ z, ((C3 bs q).put (kl3 bs q) _).atKey _ z = _
      rw [← hk]
      exact ⟨Maps.has_put_same (C3_map bs q) (kl3_key bs q) _, fun z => Maps.atKey_put_same (C3_map bs q) (kl3_key bs q) _ z⟩
    · have hne : kl3 bs j ≠ kl3 bs n := fun x => hr n (by omega) (by omega) ((kl3_iff hb j n).1 x.symm)
      obtain ⟨h1, h2⟩ := C3_some hb hq n (by omega) fun r a b => hr r a (by omega)
      refine ⟨?_, fun z => ?_⟩
      · show Maps.has ((C3 bs n).put _ _) _ = _
        rw [Maps.has_put_other hne]; exact h1
      · show ((C3 bs n).put _ _).atKey _ z = _
        rw [Maps.atKey_put_other hne]; exact h2 z
/-- what the look-up tells at place j -/
theorem look3 {bs : Nat → Nat} (hb : ∀ i, bs i < 256) (j : Nat) (c : Int) (hc : (C3 bs j).atKey (kl3 bs j) (.lit (.int .i64 0)) = .lit (.int .i64 c)) :
    (Maps.has (C3 bs j) (kl3 bs j) = false ∧ prevP bs j j = 0) ∨ (Maps.has (C3 bs j) (kl3 bs j) = true ∧ ∃ q : Nat, q < j ∧ c = (q : Int) ∧ prevP bs j j = j - q) := by
  rcases prevP_cases bs j j with h | ⟨q, h1, h2, h4⟩
  · exact Or.inl ⟨C3_none hb j h, prevP_none j h⟩
  · obtain ⟨a1, a2⟩ := C3_some hb h2 j h1 h4
    refine Or.inr ⟨a1, q, h1, ?_, prevP_some h2 j h1 h4⟩
    rw [a2] at hc
    injection hc with hc
    injection hc with _ hc
    exact hc.symm
theorem keyOf_three {P : Program} {k e : TypeId} (A : WideMaps.ArrKey P k e 3) (he : P.underlying e = some (.int .u8)) (hsz : ∃ m, P.types.size = m + 1) {bs : Nat → Nat} (hb : ∀ i, bs i < 256) (j : Nat) :
    keyOf P k (.agg #[.int .u8 (bs j : Nat), .int .u8 (bs (j + 1) : Nat), .int .u8 (bs (j + 2) : Nat)]) = some (kl3 bs j) := by
  have hkt := A.keyType hsz
  obtain ⟨m, hm⟩ := hsz
  have wa := u8_wf (hb j)
  have wb := u8_wf (hb (j + 1))
  have wc := u8_wf (hb (j + 2))
  unfold keyOf kl3 kL3
  simp only [A.hu]
  rw [if_pos (by simp [hkt, Value.formed, A.hu, A.size]), hm]
  unfold Program.keyLits
  simp only [A.hu, Value.cells]
  rw [if_pos (by rw [A.size]; rfl), show List.range 3 = [0, 1, 2] from rfl, List.mapM_cons, List.mapM_cons, List.mapM_cons, List.mapM_nil]
  simp [A.one, Program.keyLits, he, wa, wb, wc]
end Go.Proofs.Ytpeddaljgmkomaa
