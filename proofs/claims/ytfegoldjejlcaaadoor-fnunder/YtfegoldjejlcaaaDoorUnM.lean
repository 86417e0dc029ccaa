/-
  What lies under a path, as plain mathematics: gathered from a tree's branches, and told by the paths alone.
-/
import Derived.Test.YtfegoldjejlcaaaDoorTrFi
import Derived.Test.YtfegoldjejlcaaaDoorChgM
import Derived.Test.YtfegoldjejlcaaaDoorRtL
namespace Go.Proofs.YtfegoldjejlcaaaDoor
open Go.RowKit
set_option linter.unusedVariables false
set_option linter.unusedSimpArgs false
/-- a path is another one, or lies below it -/
def unL (s p : List UInt8) : Prop := p = s ∨ ∃ r, p = s ++ 47 :: r
theorem pts_ne0 (l : List UInt8) : pts l ≠ [] := pts_ne l
theorem joinL_app : ∀ (A B : List (List UInt8)), A ≠ [] → B ≠ [] → joinL (A ++ B) = joinL A ++ 47 :: joinL B
  | [], _, h, _ => absurd rfl h
  | [a], [], _, h => absurd rfl h
  | [a], b :: B, _, _ => rfl
  | a :: a2 :: A, B, _, hB => by
    show a ++ 47 :: joinL ((a2 :: A) ++ B) = (a ++ 47 :: joinL (a2 :: A)) ++ 47 :: joinL B
    rw [joinL_app (a2 :: A) B (by simp) hB]
    simp
theorem unL_pts (s p : List UInt8) : unL s p ↔ pts s <+: pts p := by
  constructor
  · rintro (rfl | ⟨r, rfl⟩)
    · exact List.prefix_refl _
    · rw [pts_cutM]; exact List.prefix_append _ _
  · rintro ⟨B, hB⟩
    by_cases h : B = []
    · subst h
      left
      rw [List.append_nil] at hB
      rw [← joinL_pts p, ← hB, joinL_pts]
    · right
      refine ⟨joinL B, ?_⟩
      rw [← joinL_pts p, ← hB, joinL_app _ _ (pts_ne0 s) h, joinL_pts]
/-- the same, of a right path, by the names -/
theorem pcs_pre {s p : ByteArray} (hp : pathB p.toList = true) : unL s.data.toList p.data.toList ↔ pcsB s <+: pcsB p := by
  have hf := path_few hp
  have e2 := pcsB_few p (by omega)
  rw [unL_pts]
  constructor
  · intro h
    have hl : (pts s.data.toList).length ≤ 7 := by have := h.length_le; omega
    have e1 := pcsB_few s hl
    rw [← e1, ← e2] at h
    obtain ⟨B, hB⟩ := h
    refine ⟨(pcsB p).drop (pcsB s).length, ?_⟩
    have e3 : (pcsB p).take (pcsB s).length = pcsB s := by
      have inj : ∀ (A B : List ByteArray), A.map (·.data.toList) = B.map (·.data.toList) → A = B := by
        intro A
        induction A with
        | nil => intro B hB; cases B with | nil => rfl | cons b B => simp at hB
        | cons a A ih =>
          intro B hB
          cases B with
          | nil => simp at hB
          | cons b B =>
            simp only [List.map_cons, List.cons.injEq] at hB
            have : a = b := ba_ext hB.1
            rw [this, ih B hB.2]
      apply inj
      rw [List.map_take, ← hB]
      have e4 : (pcsB s).length = ((pcsB s).map (·.data.toList)).length := by simp
      rw [e4, List.take_left]
    conv => rhs; rw [← List.take_append_drop (pcsB s).length (pcsB p), e3]
  · intro h
    have hl : (pts s.data.toList).length ≤ 7 := by
      rcases Nat.lt_or_ge 7 (pts s.data.toList).length with c | c
      · have h7 := pcsB_many s (by omega)
        have h8 := h.length_le
        have h9 : (pcsB p).length = ((pcsB p).map (·.data.toList)).length := by simp
        rw [e2] at h9
        omega
      · exact c
    have e1 := pcsB_few s hl
    obtain ⟨B, hB⟩ := h
    rw [← e1, ← e2, ← hB, List.map_append]
    exact List.prefix_append _ _
/-- branches below a branch, itself first -/
noncomputable def gth (F : Nat → NdI) (n : Nat) : Nat → Nat → List Nat
  | 0, k => [k]
  | d + 1, k => k :: (bC F n k).flatMap (gth F n d)
theorem bP_le6 {F : Nat → NdI} {n : Nat} (h : trV F n) : ∀ {c : Nat}, c ≤ n → (bP F c).length ≤ 6
  | 0, _ => Nat.zero_le _
  | c + 1, hc => (pcs_pos (h c (by omega)).1.1).2
theorem bC_deep {F : Nat → NdI} {n k c : Nat} (h : trV F n) (hc : c ∈ bC F n k) : c ≤ n ∧ bP F c = bP F k ++ [bL F c] := by
  obtain ⟨j, rfl, hj, hu⟩ := bC_mem hc
  refine ⟨by omega, ?_⟩
  rw [bP_last h hj, hu]
theorem bC_none {F : Nat → NdI} {n k : Nat} (h : trV F n) (hd : 6 ≤ (bP F k).length) : bC F n k = [] := by
  cases hb : bC F n k with
  | nil => rfl
  | cons c l =>
    have hc : c ∈ bC F n k := by rw [hb]; exact List.mem_cons_self ..
    obtain ⟨h1, h2⟩ := bC_deep h hc
    have h3 := bP_le6 h h1
    rw [h2, List.length_append] at h3
    simp at h3
    omega
theorem gth_eq {F : Nat → NdI} {n d k : Nat} (h : trV F n) (hd : 6 ≤ (bP F k).length + d) : gth F n d k = k :: (bC F n k).flatMap (gth F n (d - 1)) := by
  cases d with
  | zero => rw [bC_none h (by omega)]; rfl
  | succ d => rfl
theorem gth_mem {F : Nat → NdI} {n : Nat} (h : trV F n) : ∀ (d k : Nat), k ≤ n → 6 ≤ (bP F k).length + d → ∀ c, c ∈ gth F n d k ↔ c ≤ n ∧ bP F k <+: bP F c := by
  intro d
  induction d with
  | zero =>
    intro k hk hd c
    show c ∈ [k] ↔ _
    rw [List.mem_singleton]
    constructor
    · rintro rfl; exact ⟨hk, List.prefix_refl _⟩
    · rintro ⟨hc, hp⟩
      have := bP_le6 h hc
      exact bP_inj h hc hk ((hp.eq_of_length_le (by omega)).symm)
  | succ d ih =>
    intro k hk hd c
    show c ∈ k :: (bC F n k).flatMap (gth F n d) ↔ _
    rw [List.mem_cons, List.mem_flatMap]
    constructor
    · rintro (rfl | ⟨b, hb, hc⟩)
      · exact ⟨hk, List.prefix_refl _⟩
      · obtain ⟨h1, h2⟩ := bC_deep h hb
        obtain ⟨h3, h4⟩ := (ih b h1 (by rw [h2, List.length_append]; simp; omega) c).1 hc
        refine ⟨h3, List.IsPrefix.trans ?_ h4⟩
        rw [h2]
        exact List.prefix_append _ _
    · rintro ⟨hc, hp⟩
      by_cases e : (bP F k).length = (bP F c).length
      · left
        exact bP_inj h hc hk (hp.eq_of_length e).symm
      · right
        have hlt : (bP F k).length + 1 ≤ (bP F c).length := by have := hp.length_le; omega
        obtain ⟨b, hb, eb⟩ := bP_anc h c hc ((bP F k).length + 1) hlt
        have hbn : b ≤ n := by omega
        have hlb : (bP F b).length = (bP F k).length + 1 := by rw [eb, List.length_take]; omega
        cases b with
        | zero => exact absurd hlb (by show 0 ≠ _; omega)
        | succ j =>
          have hu : bU F j = k := bU_eq h (by omega) hk (by
            rw [eb, List.dropLast_eq_take, List.take_take, List.length_take]
            obtain ⟨r, hr⟩ := hp
            have : min (min ((bP F k).length + 1) (bP F c).length - 1) ((bP F k).length + 1) = (bP F k).length := by omega
            rw [this, ← hr, List.take_left])
          refine ⟨j + 1, bC_of (by omega) hu, ?_⟩
          refine (ih (j + 1) hbn (by omega) c).2 ⟨hc, ?_⟩
          rw [eb]
          exact List.take_prefix _ _
theorem bC_nodup (F : Nat → NdI) (i k : Nat) : (bC F i k).Nodup := by
  unfold bC
  refine List.Pairwise.map _ (fun a b (hab : a ≠ b) c => hab (by omega)) ?_
  exact List.Nodup.sublist List.filter_sublist List.nodup_range
theorem gth_nodup {F : Nat → NdI} {n : Nat} (h : trV F n) : ∀ (d k : Nat), k ≤ n → 6 ≤ (bP F k).length + d → (gth F n d k).Nodup := by
  intro d
  induction d with
  | zero => intro k _ _; show [k].Nodup; simp
  | succ d ih =>
    intro k hk hd
    show (k :: (bC F n k).flatMap (gth F n d)).Nodup
    rw [List.nodup_cons]
    constructor
    · intro hm
      obtain ⟨b, hb, hc⟩ := List.mem_flatMap.1 hm
      obtain ⟨h1, h2⟩ := bC_deep h hb
      have h4 := ((gth_mem h d b h1 (by rw [h2, List.length_append]; simp; omega) k).1 hc).2.length_le
      rw [h2, List.length_append] at h4
      simp at h4
      omega
    · unfold List.Nodup
      rw [List.pairwise_flatMap]
      constructor
      · intro b hb
        obtain ⟨h1, h2⟩ := bC_deep h hb
        exact ih b h1 (by rw [h2, List.length_append]; simp; omega)
      · refine List.Pairwise.imp_of_mem ?_ (bC_nodup F n k)
        intro a b ha hb hab x hx y hy e
        subst e
        obtain ⟨a1, a2⟩ := bC_deep h ha
        obtain ⟨b1, b2⟩ := bC_deep h hb
        have p1 := ((gth_mem h d a a1 (by rw [a2, List.length_append]; simp; omega) x).1 hx).2
        have p2 := ((gth_mem h d b b1 (by rw [b2, List.length_append]; simp; omega) x).1 hy).2
        have hl : (bP F a).length = (bP F b).length := by rw [a2, b2, List.length_append, List.length_append]; rfl
        have : bP F a = bP F b := by
          obtain ⟨r, hr⟩ := p1
          obtain ⟨t, ht⟩ := p2
          have e1 : (bP F x).take (bP F a).length = bP F a := by rw [← hr, List.take_left]
          have e2 : (bP F x).take (bP F b).length = bP F b := by rw [← ht, List.take_left]
          rw [← e1, ← e2, hl]
        exact hab (bP_inj h a1 b1 this)
theorem nodup_lt : ∀ (m : Nat) (L : List Nat), L.Nodup → (∀ x ∈ L, x < m) → L.length ≤ m
  | 0, L, _, h => by
    cases L with
    | nil => exact Nat.le_refl _
    | cons x l => exact absurd (h x (List.mem_cons_self ..)) (by omega)
  | m + 1, L, hn, h => by
    by_cases hm : m ∈ L
    · have ih := nodup_lt m (L.erase m) (hn.erase m) fun x hx => by
        obtain ⟨h1, h2⟩ := hn.mem_erase_iff.1 hx
        have := h x h2
        omega
      rw [List.length_erase_of_mem hm] at ih
      omega
    · have ih := nodup_lt m L hn fun x hx => by
        have := h x hx
        have hne : x ≠ m := fun e => hm (e ▸ hx)
        omega
      omega
theorem gth_len {F : Nat → NdI} {n : Nat} (h : trV F n) (d k : Nat) (hk : k ≤ n) (hd : 6 ≤ (bP F k).length + d) : (gth F n d k).length ≤ n + 1 := by
  refine nodup_lt (n + 1) _ (gth_nodup h d k hk hd) fun c hc => ?_
  have := ((gth_mem h d k hk hd c).1 hc).1
  omega
/-- rising by path, and just the nodes that lie under s -/
structure UnP (F : Nat → NdI) (n : Nat) (s : ByteArray) (L : List NdI) : Prop where
  rise : L.Pairwise fun a b => pL a.p b.p
  mem : ∀ p, p ∈ L ↔ ∃ i, i < n ∧ F i = p ∧ unL s.data.toList p.p.data.toList
theorem UnP.one {F : Nat → NdI} {n : Nat} {s : ByteArray} {L M : List NdI} (h : UnP F n s L) (k : UnP F n s M) : L = M := by
  have h1 : L.Nodup := h.rise.imp fun {a b} h e => by subst e; exact pL_ne h rfl
  have h2 : M.Nodup := k.rise.imp fun {a b} h e => by subst e; exact pL_ne h rfl
  have hp : L.Perm M := (List.perm_ext_iff_of_nodup h1 h2).2 fun p => (h.mem p).trans (k.mem p).symm
  exact List.Perm.eq_of_pairwise (le := fun a b => pL a.p b.p) (fun a b _ _ x y => absurd (pL_trans x y) fun c => pL_ne c rfl) h.rise k.rise hp
open Classical in
/-- the nodes that lie under s, of the first ones -/
noncomputable def uf (F : Nat → NdI) (s : ByteArray) : Nat → List NdI
  | 0 => []
  | i + 1 => uf F s i ++ (if unL s.data.toList (F i).p.data.toList then [F i] else [])
theorem uf_yes {F : Nat → NdI} {s : ByteArray} {i : Nat} (h : unL s.data.toList (F i).p.data.toList) : uf F s (i + 1) = uf F s i ++ [F i] := by
  show uf F s i ++ _ = _
  rw [if_pos h]
theorem uf_no {F : Nat → NdI} {s : ByteArray} {i : Nat} (h : ¬ unL s.data.toList (F i).p.data.toList) : uf F s (i + 1) = uf F s i := by
  show uf F s i ++ _ = _
  rw [if_neg h, List.append_nil]
theorem uf_len (F : Nat → NdI) (s : ByteArray) : ∀ i, (uf F s i).length ≤ i
  | 0 => Nat.le_refl _
  | i + 1 => by
    have := uf_len F s i
    by_cases h : unL s.data.toList (F i).p.data.toList
    · rw [uf_yes h, List.length_append]; simp; omega
    · rw [uf_no h]; omega
theorem uf_mem (F : Nat → NdI) (s : ByteArray) (p : NdI) : ∀ n, p ∈ uf F s n ↔ ∃ i, i < n ∧ F i = p ∧ unL s.data.toList p.p.data.toList
  | 0 => ⟨fun h => absurd h (by simp [uf]), fun ⟨i, h, _⟩ => by omega⟩
  | n + 1 => by
    by_cases h : unL s.data.toList (F n).p.data.toList
    · rw [uf_yes h, List.mem_append, List.mem_singleton, uf_mem F s p n]
      constructor
      · rintro (⟨i, h1, h2⟩ | rfl)
        · exact ⟨i, by omega, h2⟩
        · exact ⟨n, by omega, rfl, h⟩
      · rintro ⟨i, h1, h2, h3⟩
        by_cases e : i = n
        · subst e; exact Or.inr h2.symm
        · exact Or.inl ⟨i, by omega, h2, h3⟩
    · rw [uf_no h, uf_mem F s p n]
      constructor
      · rintro ⟨i, h1, h2⟩; exact ⟨i, by omega, h2⟩
      · rintro ⟨i, h1, h2, h3⟩
        by_cases e : i = n
        · subst e; rw [h2] at h; exact absurd h3 h
        · exact ⟨i, by omega, h2, h3⟩
theorem uf_rise {F : Nat → NdI} {n : Nat} {s : ByteArray} (hF : trV F n) : ∀ i, i ≤ n → (uf F s i).Pairwise fun a b => pL a.p b.p
  | 0, _ => List.Pairwise.nil
  | i + 1, hi => by
    have ih := uf_rise (s := s) hF i (by omega)
    by_cases h : unL s.data.toList (F i).p.data.toList
    · rw [uf_yes h, List.pairwise_append]
      refine ⟨ih, by simp, fun a ha b hb => ?_⟩
      rw [List.mem_singleton] at hb
      subst hb
      obtain ⟨j, hj, rfl, _⟩ := (uf_mem F s a i).1 ha
      exact rise_lt hF hj (by omega)
    · rw [uf_no h]; exact ih
theorem uf_unP {F : Nat → NdI} {n : Nat} {s : ByteArray} (hF : trV F n) : UnP F n s (uf F s n) := ⟨uf_rise hF n (Nat.le_refl _), fun p => uf_mem F s p n⟩
/-- where the path is no node's nothing lies under it -/
theorem uf_none {F : Nat → NdI} {n : Nat} {s : ByteArray} (hF : trV F n) (hno : ∀ j, j < n → (F j).p ≠ s) : uf F s n = [] := by
  cases hu : uf F s n with
  | nil => rfl
  | cons p l =>
    exfalso
    obtain ⟨i, hi, rfl, h⟩ := (uf_mem F s p n).1 (by rw [hu]; exact List.mem_cons_self ..)
    have hp := (hF i hi).1.1
    have hpre := (pcs_pre hp).1 h
    obtain ⟨b, hb, eb⟩ := bP_anc hF (i + 1) (by omega) (pcsB s).length hpre.length_le
    have eb2 : bP F b = pcsB s := by
      rw [eb]
      obtain ⟨r, hr⟩ := hpre
      show (pcsB (F i).p).take _ = _
      rw [← hr, List.take_left]
    cases b with
    | zero => exact pcsB_ne s eb2.symm
    | succ j => exact hno j (by omega) (pcs_inj (hF j (by omega)).1.1 eb2)
theorem bN_succ (F : Nat → NdI) (k : Nat) : bN F (k + 1) = F k := rfl
/-- a sort of what was gathered is the list that is asked -/
theorem unP_of {F : Nat → NdI} {n j : Nat} {s : ByteArray} {L : List NdI} (hF : trV F n) (hj : j < n) (hs : (F j).p = s) (hp : L.Perm ((gth F n 6 (j + 1)).map (bN F))) (hso : L.Pairwise fun a b => ¬ pL b.p a.p) : UnP F n s L := by
  have hd : 6 ≤ (bP F (j + 1)).length + 6 := by omega
  have hk : j + 1 ≤ n := by omega
  have hmem : ∀ c, c ∈ gth F n 6 (j + 1) → ∃ i, c = i + 1 ∧ i < n ∧ unL s.data.toList (F i).p.data.toList := fun c hc => by
    obtain ⟨h1, h2⟩ := (gth_mem hF 6 (j + 1) hk hd c).1 hc
    cases c with
    | zero =>
      have : pcsB (F j).p = [] := List.prefix_nil.1 h2
      exact absurd this (pcsB_ne _)
    | succ i => exact ⟨i, rfl, by omega, (pcs_pre (hF i (by omega)).1.1).2 (by rw [← hs]; exact h2)⟩
  have hdis : ((gth F n 6 (j + 1)).map (bN F)).Pairwise fun a b => a.p ≠ b.p := by
    rw [List.pairwise_map]
    refine List.Pairwise.imp_of_mem ?_ (gth_nodup hF 6 (j + 1) hk hd)
    intro a b ha hb hab e
    obtain ⟨x, rfl, hx, _⟩ := hmem a ha
    obtain ⟨y, rfl, hy, _⟩ := hmem b hb
    exact hab (by rw [trV_inj hF hx hy e])
  refine ⟨?_, fun p => hp.mem_iff.trans ?_⟩
  · have h1 : L.Pairwise fun a b => a.p ≠ b.p := (hp.pairwise_iff (fun {a b} h e => h e.symm)).2 hdis
    refine (List.Pairwise.and h1 hso).imp fun {a b} h => ?_
    rcases blt_tri a.p.toList b.p.toList with k | k | k
    · exact k
    · exact absurd (ba_list k) h.1
    · exact absurd k h.2
  · rw [List.mem_map]
    constructor
    · rintro ⟨c, hc, rfl⟩
      obtain ⟨i, rfl, hi, hu⟩ := hmem c hc
      exact ⟨i, hi, rfl, hu⟩
    · rintro ⟨i, hi, rfl, hu⟩
      refine ⟨i + 1, (gth_mem hF 6 (j + 1) hk hd (i + 1)).2 ⟨by omega, ?_⟩, rfl⟩
      have := (pcs_pre (hF i hi).1.1).1 hu
      rw [← hs] at this
      exact this
end Go.Proofs.YtfegoldjejlcaaaDoor
