/-
  Changed as plain mathematics: the paths at which two right trees do not have the same, by a merge, and by a sort.
-/
import Derived.Test.YtbmcjoaigajjkaaDoorTrM
import Derived.Test.YtbmcjoaigajjkaaDoorTrB
namespace Go.Proofs.YtbmcjoaigajjkaaDoor
open Go.RowKit
set_option linter.unusedVariables false
set_option linter.unusedSimpArgs false
/-- a path at which two lists of nodes do not have the same -/
def chD (F : Nat → NdI) (n : Nat) (G : Nat → NdI) (m : Nat) (s : ByteArray) : Prop :=
  (∃ i, i < n ∧ (F i).p = s ∧ ∀ j, j < m → G j ≠ F i) ∨ (∃ j, j < m ∧ (G j).p = s ∧ ∀ i, i < n → (F i).p ≠ s)
def pL (a b : ByteArray) : Prop := Op.bytesLess a.toList b.toList = true
theorem pL_ne {a b : ByteArray} (h : pL a b) : a ≠ b := fun e => by
  subst e
  unfold pL at h
  rw [blt_irr] at h
  cases h
theorem pL_trans {a b c : ByteArray} (h : pL a b) (k : pL b c) : pL a c := blt_trans h k
/-- rising, and just these -/
structure ChP (F : Nat → NdI) (n : Nat) (G : Nat → NdI) (m : Nat) (L : List ByteArray) : Prop where
  rise : L.Pairwise pL
  mem : ∀ s, s ∈ L ↔ chD F n G m s
theorem ChP.one {F : Nat → NdI} {n : Nat} {G : Nat → NdI} {m : Nat} {L M : List ByteArray} (h : ChP F n G m L) (k : ChP F n G m M) : L = M := by
  have h1 : L.Nodup := h.rise.imp fun h => pL_ne h
  have h2 : M.Nodup := k.rise.imp fun h => pL_ne h
  have hp : L.Perm M := (List.perm_ext_iff_of_nodup h1 h2).2 fun s => (h.mem s).trans (k.mem s).symm
  exact List.Perm.eq_of_pairwise (le := pL) (fun a b _ _ x y => absurd (pL_trans x y) fun c => pL_ne c rfl) h.rise k.rise hp
theorem rise_lt {F : Nat → NdI} {n : Nat} (h : trV F n) {a : Nat} : ∀ {b : Nat}, a < b → b < n → pL (F a).p (F b).p
  | 0, h1, _ => absurd h1 (by omega)
  | b + 1, h1, h2 => by
    have hs : pL (F b).p (F (b + 1)).p := (h (b + 1) h2).2.1 (by omega)
    by_cases e : a = b
    · subst e; exact hs
    · exact pL_trans (rise_lt h (by omega) (by omega)) hs
theorem rise_eq {F : Nat → NdI} {n : Nat} (h : trV F n) {a b : Nat} (ha : a < n) (hb : b < n) (e : (F a).p = (F b).p) : a = b := by
  rcases Nat.lt_trichotomy a b with h1 | h1 | h1
  · exact absurd e (pL_ne (rise_lt h h1 hb))
  · exact h1
  · exact absurd e.symm (pL_ne (rise_lt h h1 ha))
/-- what a merge has behind i nodes of one and k of the other -/
structure MgI (F : Nat → NdI) (n : Nat) (G : Nat → NdI) (m i k : Nat) (L : List ByteArray) : Prop where
  hi : i ≤ n
  hk : k ≤ m
  rise : L.Pairwise pL
  mem : ∀ s, s ∈ L ↔ chD F n G m s ∧ ((∃ a, a < i ∧ (F a).p = s) ∨ (∃ b, b < k ∧ (G b).p = s))
  fg : ∀ a, a < i → k < m → pL (F a).p (G k).p
  gf : ∀ b, b < k → i < n → pL (G b).p (F i).p
theorem MgI.start (F : Nat → NdI) (n : Nat) (G : Nat → NdI) (m : Nat) : MgI F n G m 0 0 [] :=
  ⟨Nat.zero_le _, Nat.zero_le _, List.Pairwise.nil, fun s => ⟨fun h => absurd h (by simp), fun ⟨_, h⟩ => by rcases h with ⟨a, h, _⟩ | ⟨a, h, _⟩ <;> omega⟩, fun a h => by omega, fun a h => by omega⟩
theorem pair_snoc {L : List ByteArray} {x : ByteArray} (h : L.Pairwise pL) (k : ∀ s ∈ L, pL s x) : (L ++ [x]).Pairwise pL := by
  rw [List.pairwise_append]
  exact ⟨h, by simp, fun a ha b hb => by simp at hb; subst hb; exact k a ha⟩
theorem MgI.low {F : Nat → NdI} {n : Nat} {G : Nat → NdI} {m i k : Nat} {L : List ByteArray} (h : MgI F n G m i k L) (hF : trV F n) (hi : i < n) : ∀ s ∈ L, pL s (F i).p := fun s hs => by
  rcases ((h.mem s).1 hs).2 with ⟨a, ha, rfl⟩ | ⟨b, hb, rfl⟩
  · exact rise_lt hF ha hi
  · exact h.gf b hb hi
theorem MgI.lowG {F : Nat → NdI} {n : Nat} {G : Nat → NdI} {m i k : Nat} {L : List ByteArray} (h : MgI F n G m i k L) (hG : trV G m) (hk : k < m) : ∀ s ∈ L, pL s (G k).p := fun s hs => by
  rcases ((h.mem s).1 hs).2 with ⟨a, ha, rfl⟩ | ⟨b, hb, rfl⟩
  · exact h.fg a ha hk
  · exact rise_lt hG hb hk
theorem MgI.a {F : Nat → NdI} {n : Nat} {G : Nat → NdI} {m i k : Nat} {L : List ByteArray} (h : MgI F n G m i k L) (hF : trV F n) (hG : trV G m) (hi : i < n) (hc : k < m → pL (F i).p (G k).p) : MgI F n G m (i + 1) k (L ++ [(F i).p]) := by
  have hno : ∀ j, j < m → (G j).p ≠ (F i).p := fun j hj => by
    by_cases hjk : j < k
    · exact pL_ne (h.gf j hjk hi)
    · have h1 := hc (by omega)
      by_cases e : k = j
      · subst e; exact (pL_ne h1).symm
      · exact (pL_ne (pL_trans h1 (rise_lt hG (by omega) hj))).symm
  refine ⟨hi, h.hk, pair_snoc h.rise (h.low hF hi), fun s => ?_, fun a ha hk => ?_, fun b hb hn => ?_⟩
  · rw [List.mem_append, List.mem_singleton]
    constructor
    · rintro (hs | rfl)
      · obtain ⟨h1, ⟨a, ha, e⟩ | h2⟩ := (h.mem s).1 hs
        · exact ⟨h1, Or.inl ⟨a, by omega, e⟩⟩
        · exact ⟨h1, Or.inr h2⟩
      · exact ⟨Or.inl ⟨i, hi, rfl, fun j hj e => hno j hj (by rw [e])⟩, Or.inl ⟨i, by omega, rfl⟩⟩
    · rintro ⟨h1, ⟨a, ha, e⟩ | h2⟩
      · by_cases ea : a = i
        · subst ea; exact Or.inr e.symm
        · exact Or.inl ((h.mem s).2 ⟨h1, Or.inl ⟨a, by omega, e⟩⟩)
      · exact Or.inl ((h.mem s).2 ⟨h1, Or.inr h2⟩)
  · by_cases ea : a = i
    · subst ea; exact hc hk
    · exact h.fg a (by omega) hk
  · exact pL_trans (h.gf b hb hi) (rise_lt hF (by omega) hn)
theorem MgI.b {F : Nat → NdI} {n : Nat} {G : Nat → NdI} {m i k : Nat} {L : List ByteArray} (h : MgI F n G m i k L) (hF : trV F n) (hG : trV G m) (hk : k < m) (hc : i < n → pL (G k).p (F i).p) : MgI F n G m i (k + 1) (L ++ [(G k).p]) := by
  have hno : ∀ a, a < n → (F a).p ≠ (G k).p := fun j hj => by
    by_cases hjk : j < i
    · exact pL_ne (h.fg j hjk hk)
    · have h1 := hc (by omega)
      by_cases e : i = j
      · subst e; exact (pL_ne h1).symm
      · exact (pL_ne (pL_trans h1 (rise_lt hF (by omega) hj))).symm
  refine ⟨h.hi, hk, pair_snoc h.rise (h.lowG hG hk), fun s => ?_, fun a ha hk2 => ?_, fun b hb hn => ?_⟩
  · rw [List.mem_append, List.mem_singleton]
    constructor
    · rintro (hs | rfl)
      · obtain ⟨h1, h2 | ⟨a, ha, e⟩⟩ := (h.mem s).1 hs
        · exact ⟨h1, Or.inl h2⟩
        · exact ⟨h1, Or.inr ⟨a, by omega, e⟩⟩
      · exact ⟨Or.inr ⟨k, hk, rfl, hno⟩, Or.inr ⟨k, by omega, rfl⟩⟩
    · rintro ⟨h1, h2 | ⟨a, ha, e⟩⟩
      · exact Or.inl ((h.mem s).2 ⟨h1, Or.inl h2⟩)
      · by_cases ea : a = k
        · subst ea; exact Or.inr e.symm
        · exact Or.inl ((h.mem s).2 ⟨h1, Or.inr ⟨a, by omega, e⟩⟩)
  · exact pL_trans (h.fg a ha hk) (rise_lt hG (by omega) hk2)
  · by_cases ea : b = k
    · subst ea; exact hc hn
    · exact h.gf b (by omega) hn
theorem MgI.two {F : Nat → NdI} {n : Nat} {G : Nat → NdI} {m i k : Nat} {L : List ByteArray} (h : MgI F n G m i k L) (hF : trV F n) (hG : trV G m) (hi : i < n) (hk : k < m) (e : (F i).p = (G k).p) (L2 : List ByteArray) (hL : (F i ≠ G k ∧ L2 = L ++ [(F i).p]) ∨ (F i = G k ∧ L2 = L)) : MgI F n G m (i + 1) (k + 1) L2 := by
  have hfg : ∀ a, a < i + 1 → k + 1 < m → pL (F a).p (G (k + 1)).p := fun a ha hk2 => by
    by_cases ea : a = i
    · subst ea; rw [e]; exact rise_lt hG (by omega) hk2
    · exact pL_trans (h.fg a (by omega) hk) (rise_lt hG (by omega) hk2)
  have hgf : ∀ b, b < k + 1 → i + 1 < n → pL (G b).p (F (i + 1)).p := fun b hb hn => by
    by_cases ea : b = k
    · subst ea; rw [← e]; exact rise_lt hF (by omega) hn
    · exact pL_trans (h.gf b (by omega) hi) (rise_lt hF (by omega) hn)
  rcases hL with ⟨hd, rfl⟩ | ⟨hd, rfl⟩
  · have hc : chD F n G m (F i).p := Or.inl ⟨i, hi, rfl, fun j hj ej => by
      have : j = k := rise_eq hG hj hk (by rw [ej, e])
      subst this
      exact hd ej.symm⟩
    refine ⟨hi, hk, pair_snoc h.rise (h.low hF hi), fun s => ?_, hfg, hgf⟩
    rw [List.mem_append, List.mem_singleton]
    constructor
    · rintro (hs | rfl)
      · obtain ⟨h1, ⟨a, ha, x⟩ | ⟨a, ha, x⟩⟩ := (h.mem s).1 hs
        · exact ⟨h1, Or.inl ⟨a, by omega, x⟩⟩
        · exact ⟨h1, Or.inr ⟨a, by omega, x⟩⟩
      · exact ⟨hc, Or.inl ⟨i, by omega, rfl⟩⟩
    · rintro ⟨h1, ⟨a, ha, x⟩ | ⟨a, ha, x⟩⟩
      · by_cases ea : a = i
        · subst ea; exact Or.inr x.symm
        · exact Or.inl ((h.mem s).2 ⟨h1, Or.inl ⟨a, by omega, x⟩⟩)
      · by_cases ea : a = k
        · subst ea; exact Or.inr (by rw [← x, e])
        · exact Or.inl ((h.mem s).2 ⟨h1, Or.inr ⟨a, by omega, x⟩⟩)
  · have hno : ∀ s, s = (F i).p → ¬ chD F n G m s := by
      rintro s rfl (⟨a, ha, x, hj⟩ | ⟨b, hb, x, hj⟩)
      · have : a = i := rise_eq hF ha hi x
        subst this
        exact hj k hk hd.symm
      · exact hj i hi rfl
    refine ⟨hi, hk, h.rise, fun s => ?_, hfg, hgf⟩
    constructor
    · intro hs
      obtain ⟨h1, ⟨a, ha, x⟩ | ⟨a, ha, x⟩⟩ := (h.mem s).1 hs
      · exact ⟨h1, Or.inl ⟨a, by omega, x⟩⟩
      · exact ⟨h1, Or.inr ⟨a, by omega, x⟩⟩
    · rintro ⟨h1, ⟨a, ha, x⟩ | ⟨a, ha, x⟩⟩
      · by_cases ea : a = i
        · subst ea; exact absurd h1 (hno s x.symm)
        · exact (h.mem s).2 ⟨h1, Or.inl ⟨a, by omega, x⟩⟩
      · by_cases ea : a = k
        · subst ea; exact absurd h1 (hno s (by rw [← x, e]))
        · exact (h.mem s).2 ⟨h1, Or.inr ⟨a, by omega, x⟩⟩
theorem MgI.done {F : Nat → NdI} {n : Nat} {G : Nat → NdI} {m : Nat} {L : List ByteArray} (h : MgI F n G m n m L) : ChP F n G m L :=
  ⟨h.rise, fun s => ⟨fun hs => ((h.mem s).1 hs).1, fun hs => (h.mem s).2 ⟨hs, by
    rcases hs with ⟨a, ha, x, _⟩ | ⟨b, hb, x, _⟩
    · exact Or.inl ⟨a, ha, x⟩
    · exact Or.inr ⟨b, hb, x⟩⟩⟩⟩
/-- what the program gathers, of the first tree and of the second -/
noncomputable def gA (F G : Nat → NdI) (m : Nat) : Nat → List ByteArray
  | 0 => []
  | i + 1 => gA F G m i ++ (open Classical in if ∃ j, j < m ∧ G j = F i then [] else [(F i).p])
noncomputable def gB (F : Nat → NdI) (n : Nat) (G : Nat → NdI) : Nat → List ByteArray
  | 0 => []
  | k + 1 => gB F n G k ++ (open Classical in if ∃ i, i < n ∧ (F i).p = (G k).p then [] else [(G k).p])
theorem gA_same {F G : Nat → NdI} {m i : Nat} (h : ∃ j, j < m ∧ G j = F i) : gA F G m (i + 1) = gA F G m i := by
  show gA F G m i ++ _ = _
  rw [if_pos h, List.append_nil]
theorem gA_new {F G : Nat → NdI} {m i : Nat} (h : ∀ j, j < m → G j ≠ F i) : gA F G m (i + 1) = gA F G m i ++ [(F i).p] := by
  show gA F G m i ++ _ = _
  rw [if_neg fun ⟨j, a, b⟩ => h j a b]
theorem gB_same {F G : Nat → NdI} {n k : Nat} (h : ∃ i, i < n ∧ (F i).p = (G k).p) : gB F n G (k + 1) = gB F n G k := by
  show gB F n G k ++ _ = _
  rw [if_pos h, List.append_nil]
theorem gB_new {F G : Nat → NdI} {n k : Nat} (h : ∀ i, i < n → (F i).p ≠ (G k).p) : gB F n G (k + 1) = gB F n G k ++ [(G k).p] := by
  show gB F n G k ++ _ = _
  rw [if_neg fun ⟨j, a, b⟩ => h j a b]
theorem gA_len (F G : Nat → NdI) (m : Nat) : ∀ i, (gA F G m i).length ≤ i
  | 0 => Nat.le_refl _
  | i + 1 => by
    by_cases h : ∃ j, j < m ∧ G j = F i
    · rw [gA_same h]; have := gA_len F G m i; omega
    · rw [gA_new fun j a b => h ⟨j, a, b⟩, List.length_append]; have := gA_len F G m i; simp; omega
theorem gB_len (F G : Nat → NdI) (n : Nat) : ∀ i, (gB F n G i).length ≤ i
  | 0 => Nat.le_refl _
  | k + 1 => by
    by_cases h : ∃ i, i < n ∧ (F i).p = (G k).p
    · rw [gB_same h]; have := gB_len F G n k; omega
    · rw [gB_new fun j a b => h ⟨j, a, b⟩, List.length_append]; have := gB_len F G n k; simp; omega
theorem gA_mem (F G : Nat → NdI) (m : Nat) (s : ByteArray) : ∀ i, s ∈ gA F G m i ↔ ∃ a, a < i ∧ (F a).p = s ∧ ∀ j, j < m → G j ≠ F a
  | 0 => ⟨fun h => absurd h (by simp [gA]), fun ⟨a, h, _⟩ => by omega⟩
  | i + 1 => by
    by_cases h : ∃ j, j < m ∧ G j = F i
    · rw [gA_same h, gA_mem F G m s i]
      constructor
      · rintro ⟨a, h1, h2⟩; exact ⟨a, by omega, h2⟩
      · rintro ⟨a, h1, h2, h3⟩
        by_cases e : a = i
        · subst e; obtain ⟨j, x, y⟩ := h; exact absurd y (h3 j x)
        · exact ⟨a, by omega, h2, h3⟩
    · have h' : ∀ j, j < m → G j ≠ F i := fun j a b => h ⟨j, a, b⟩
      rw [gA_new h', List.mem_append, List.mem_singleton, gA_mem F G m s i]
      constructor
      · rintro (⟨a, h1, h2⟩ | rfl)
        · exact ⟨a, by omega, h2⟩
        · exact ⟨i, by omega, rfl, h'⟩
      · rintro ⟨a, h1, h2, h3⟩
        by_cases e : a = i
        · subst e; exact Or.inr h2.symm
        · exact Or.inl ⟨a, by omega, h2, h3⟩
theorem gB_mem (F G : Nat → NdI) (n : Nat) (s : ByteArray) : ∀ k, s ∈ gB F n G k ↔ ∃ b, b < k ∧ (G b).p = s ∧ ∀ i, i < n → (F i).p ≠ (G b).p
  | 0 => ⟨fun h => absurd h (by simp [gB]), fun ⟨a, h, _⟩ => by omega⟩
  | k + 1 => by
    by_cases h : ∃ i, i < n ∧ (F i).p = (G k).p
    · rw [gB_same h, gB_mem F G n s k]
      constructor
      · rintro ⟨a, h1, h2⟩; exact ⟨a, by omega, h2⟩
      · rintro ⟨a, h1, h2, h3⟩
        by_cases e : a = k
        · subst e; obtain ⟨j, x, y⟩ := h; exact absurd y (h3 j x)
        · exact ⟨a, by omega, h2, h3⟩
    · have h' : ∀ i, i < n → (F i).p ≠ (G k).p := fun j a b => h ⟨j, a, b⟩
      rw [gB_new h', List.mem_append, List.mem_singleton, gB_mem F G n s k]
      constructor
      · rintro (⟨a, h1, h2⟩ | rfl)
        · exact ⟨a, by omega, h2⟩
        · exact ⟨k, by omega, rfl, h'⟩
      · rintro ⟨a, h1, h2, h3⟩
        by_cases e : a = k
        · subst e; exact Or.inr h2.symm
        · exact Or.inl ⟨a, by omega, h2, h3⟩
theorem gA_rise {F G : Nat → NdI} {n m : Nat} (hF : trV F n) : ∀ i, i ≤ n → (gA F G m i).Pairwise pL
  | 0, _ => List.Pairwise.nil
  | i + 1, hi => by
    by_cases h : ∃ j, j < m ∧ G j = F i
    · rw [gA_same h]; exact gA_rise hF i (by omega)
    · rw [gA_new fun j a b => h ⟨j, a, b⟩]
      exact pair_snoc (gA_rise hF i (by omega)) fun s hs => by
        obtain ⟨a, h1, rfl, _⟩ := (gA_mem F G m s i).1 hs
        exact rise_lt hF h1 (by omega)
theorem gB_rise {F G : Nat → NdI} {n m : Nat} (hG : trV G m) : ∀ k, k ≤ m → (gB F n G k).Pairwise pL
  | 0, _ => List.Pairwise.nil
  | k + 1, hk => by
    by_cases h : ∃ i, i < n ∧ (F i).p = (G k).p
    · rw [gB_same h]; exact gB_rise hG k (by omega)
    · rw [gB_new fun j a b => h ⟨j, a, b⟩]
      exact pair_snoc (gB_rise hG k (by omega)) fun s hs => by
        obtain ⟨a, h1, rfl, _⟩ := (gB_mem F G n s k).1 hs
        exact rise_lt hG h1 (by omega)
noncomputable def gAB (F : Nat → NdI) (n : Nat) (G : Nat → NdI) (m : Nat) : List ByteArray := gA F G m n ++ gB F n G m
theorem gAB_nodup {F G : Nat → NdI} {n m : Nat} (hF : trV F n) (hG : trV G m) : (gAB F n G m).Nodup := by
  unfold gAB List.Nodup
  rw [List.pairwise_append]
  refine ⟨(gA_rise hF n (Nat.le_refl _)).imp fun h => pL_ne h, (gB_rise hG m (Nat.le_refl _)).imp fun h => pL_ne h, fun a ha b hb e => ?_⟩
  subst e
  obtain ⟨i, hi, rfl, _⟩ := (gA_mem F G m a n).1 ha
  obtain ⟨j, hj, e, h⟩ := (gB_mem F G n _ m).1 hb
  exact h i hi e.symm
theorem gAB_mem {F G : Nat → NdI} {n m : Nat} (s : ByteArray) : s ∈ gAB F n G m ↔ chD F n G m s := by
  unfold gAB
  rw [List.mem_append, gA_mem, gB_mem]
  constructor
  · rintro (⟨a, h⟩ | ⟨b, h1, h2, h3⟩)
    · exact Or.inl ⟨a, h⟩
    · exact Or.inr ⟨b, h1, h2, fun i hi => by rw [← h2]; exact h3 i hi⟩
  · rintro (⟨a, h⟩ | ⟨b, h1, h2, h3⟩)
    · exact Or.inl ⟨a, h⟩
    · exact Or.inr ⟨b, h1, h2, fun i hi => by rw [h2]; exact h3 i hi⟩
/-- bytes' order and the order of lists are one -/
theorem blt_lt : ∀ a b : List UInt8, Op.bytesLess a b = true ↔ a < b
  | [], [] => by simp [Op.bytesLess]
  | [], b :: ys => by simp [Op.bytesLess]
  | a :: xs, [] => by simp [Op.bytesLess]
  | a :: xs, b :: ys => by
    rw [List.cons_lt_cons_iff]
    simp only [Op.bytesLess, Bool.or_eq_true, decide_eq_true_eq, Bool.and_eq_true, beq_iff_eq]
    rw [blt_lt xs ys]
def tL (s : ByteArray) : List UInt8 := s.data.toList
def oL (l : List UInt8) : ByteArray := ⟨l.toArray⟩
theorem oL_tL (s : ByteArray) : oL (tL s) = s := by unfold oL tL; cases s; simp
theorem tL_oL (l : List UInt8) : tL (oL l) = l := by unfold oL tL; simp
theorem tL_inj {a b : ByteArray} (h : tL a = tL b) : a = b := by rw [← oL_tL a, h, oL_tL]
/-- texts in order -/
def srt (P : List ByteArray) : List ByteArray := (((P.map tL).mergeSort fun x y => decide (x ≤ y))).map oL
theorem srt_perm (P : List ByteArray) : (srt P).Perm P := by
  have h := (List.mergeSort_perm (P.map tL) fun x y => decide (x ≤ y)).map oL
  rw [List.map_map] at h
  have e : P.map (oL ∘ tL) = P := by
    conv => rhs; rw [← List.map_id P]
    exact List.map_congr_left fun s _ => oL_tL s
  rw [e] at h
  exact h
theorem srt_rise {P : List ByteArray} (h : P.Nodup) : (srt P).Pairwise pL := by
  have hp := srt_perm P
  have hn : (srt P).Nodup := hp.nodup_iff.2 h
  have h1 : ((P.map tL).mergeSort fun x y => decide (x ≤ y)).Pairwise fun a b => decide (a ≤ b) = true := List.pairwise_mergeSort (fun a b c h1 h2 => by simp only [decide_eq_true_eq] at *; exact List.le_trans h1 h2) (fun a b => by simp only [Bool.or_eq_true, decide_eq_true_eq]; exact List.le_total a b) _
  have h2 : (srt P).Pairwise fun a b => tL a ≤ tL b := by
    unfold srt
    rw [List.pairwise_map]
    exact h1.imp fun {a b} h => by rw [tL_oL, tL_oL]; simpa using h
  have h3 : (srt P).Pairwise fun a b => a ≠ b ∧ tL a ≤ tL b := List.Pairwise.and hn h2
  refine h3.imp fun {a b} ⟨hne, hle⟩ => ?_
  unfold pL
  rw [Lib.toList_data, Lib.toList_data]
  rcases blt_tri (tL a) (tL b) with h | h | h
  · exact h
  · exact absurd (tL_inj h) hne
  · exact absurd ((blt_lt _ _).1 h) (List.not_lt.2 hle)
theorem chP_srt {F G : Nat → NdI} {n m : Nat} (hF : trV F n) (hG : trV G m) : ChP F n G m (srt (gAB F n G m)) :=
  ⟨srt_rise (gAB_nodup hF hG), fun s => (srt_perm _).mem_iff.trans (gAB_mem s)⟩
end Go.Proofs.YtbmcjoaigajjkaaDoor
