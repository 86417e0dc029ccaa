/-
  How long chunks are; that one behind the other they are the text; and chunks behind a cut.
-/
import Derived.Test.YtneeledgokccgadChkMath
import Derived.Test.YtneeledgokccgadCutI
namespace Go.Proofs.Ytneeledgokccgad
set_option linter.unusedVariables false
variable {L B M : Nat}
theorem first_cut (hLM : L ≤ M) (a n h : Nat) (l post : List Nat) (x : Nat) (hn : n < M) (he : cutL L B M a n h l = x :: post) : a < x ∧ x - a + n ≤ M ∧ (post ≠ [] → L ≤ x - a + n) := by
  induction l generalizing a n h with
  | nil => simp [cutL] at he
  | cons y l ih =>
    by_cases hq : l = [] ∨ endsN L B M (n + 1) (hashN h y)
    · rw [cutL_cut hq] at he
      simp only [List.cons.injEq] at he
      obtain ⟨rfl, he⟩ := he
      refine ⟨by omega, by omega, fun hp => ?_⟩
      rcases hq with rfl | hq | ⟨hq, _⟩
      · exact absurd he.symm hp
      · omega
      · omega
    · rw [cutL_on hq] at he
      have : ¬ M ≤ n + 1 := fun c => hq (.inr (.inl c))
      obtain ⟨h1, h2, h3⟩ := ih _ _ _ (by omega) he
      exact ⟨by omega, by omega, fun hp => by have := h3 hp; omega⟩
theorem cut_bounds (hL : 1 ≤ L) (hLM : L ≤ M) {l pre post : List Nat} {x : Nat} (he : cutL L B M 0 0 0 l = pre ++ x :: post) : lastC 0 pre < x ∧ x - lastC 0 pre ≤ M ∧ (post ≠ [] → L ≤ x - lastC 0 pre) := by
  rcases List.eq_nil_or_concat pre with rfl | ⟨pre', c, rfl⟩
  · have := first_cut hLM 0 0 0 l post x (by omega) he
    exact this
  · have e : List.concat pre' c = pre' ++ [c] := by simp
    rw [e] at he ⊢
    rw [lastC_snoc]
    obtain ⟨_, _, h3⟩ := cutL_behind 0 0 0 l pre' (x :: post) c (by rw [he]; simp)
    have := first_cut hLM c 0 0 _ post x (by omega) h3.symm
    exact this
theorem extract_more (s : ByteArray) (f c : Nat) (h1 : f ≤ c) (h2 : c ≤ s.size) : s.extract 0 f ++ s.extract f c = s.extract 0 c := by
  rw [ByteArray.extract_append_extract]
  congr 1 <;> omega
theorem extract_all (s : ByteArray) : s.extract 0 s.size = s := ByteArray.extract_zero_size
theorem lastC_all (s : ByteArray) : lastC 0 (cutL L B M 0 0 0 (lst s)) = s.size := by
  by_cases hs : lst s = []
  · rw [hs]
    have := lst_len s
    rw [hs] at this
    simpa [cutL, lastC] using this
  · have h := cutL_last (L := L) (B := B) (M := M) 0 0 0 (lst s) hs
    rw [lst_len] at h
    rcases List.eq_nil_or_concat (cutL L B M 0 0 0 (lst s)) with e | ⟨p, c, e⟩
    · rw [e] at h; simp at h
    · have e2 : List.concat p c = p ++ [c] := by simp
      rw [e, e2] at h ⊢
      rw [lastC_snoc]
      simp at h
      exact h
theorem chkL_at (s : ByteArray) (f : Nat) (l : List Nat) (k : Nat) (hk : k < l.length) : (chkL s f l)[k]? = some (s.extract (lastC f (l.take k)) l[k]) := by
  induction l generalizing f k with
  | nil => simp at hk
  | cons c l ih =>
    cases k with
    | zero => rfl
    | succ k =>
      have := ih c k (by simpa using hk)
      simpa [chkL, lastC] using this
theorem chkL_shift (s : ByteArray) (d f : Nat) (l : List Nat) (hf : f + d ≤ s.size) (hl : ∀ c ∈ l, c + d ≤ s.size) : chkL (s.extract d s.size) f l = chkL s (f + d) (l.map (· + d)) := by
  induction l generalizing f with
  | nil => rfl
  | cons c l ih =>
    have hc := hl c (List.mem_cons_self ..)
    show (s.extract d s.size).extract f c :: _ = s.extract (f + d) (c + d) :: _
    rw [ih c hc (fun x hx => hl x (List.mem_cons_of_mem _ hx)), ByteArray.extract_extract]
    congr 2 <;> omega
theorem chkL_drop (s : ByteArray) (f : Nat) (l : List Nat) (k : Nat) : (chkL s f l).drop k = chkL s (lastC f (l.take k)) (l.drop k) := by
  induction l generalizing f k with
  | nil => simp [chkL]
  | cons c l ih =>
    cases k with
    | zero => rfl
    | succ k => exact ih c k
theorem lst_extract (s : ByteArray) (d : Nat) (hd : d ≤ s.size) : lst (s.extract d s.size) = (lst s).drop d := by
  unfold lst
  rw [← List.map_drop]
  congr 1
  have e : (s.extract d s.size).data = s.data.extract d s.size := ByteArray.data_extract
  rw [e, Array.toList_extract]
  simp
  rw [List.take_of_length_le (by simp)]
theorem resync (s : ByteArray) (k : Nat) (hk : k < (cutL L B M 0 0 0 (lst s)).length) : (cutL L B M 0 0 0 (lst s))[k] ≤ s.size ∧ (cutL L B M 0 0 0 (lst (s.extract (cutL L B M 0 0 0 (lst s))[k] s.size))).length = (cutL L B M 0 0 0 (lst s)).length - (k + 1) ∧
    chkL (s.extract (cutL L B M 0 0 0 (lst s))[k] s.size) 0 (cutL L B M 0 0 0 (lst (s.extract (cutL L B M 0 0 0 (lst s))[k] s.size))) = (chkL s 0 (cutL L B M 0 0 0 (lst s))).drop (k + 1) := by
  have hsp : cutL L B M 0 0 0 (lst s) = (cutL L B M 0 0 0 (lst s)).take k ++ (cutL L B M 0 0 0 (lst s))[k] :: (cutL L B M 0 0 0 (lst s)).drop (k + 1) := by rw [← List.drop_eq_getElem_cons hk]; exact (List.take_append_drop k _).symm
  obtain ⟨_, h2, h3⟩ := cutL_behind 0 0 0 (lst s) _ _ _ hsp
  rw [lst_len, Nat.zero_add] at h2
  rw [Nat.sub_zero] at h3
  have e0 := cutL_shift (L := L) (B := B) (M := M) (cutL L B M 0 0 0 (lst s))[k] 0 0 0 ((lst s).drop (cutL L B M 0 0 0 (lst s))[k])
  rw [Nat.zero_add, ← h3, ← lst_extract s _ h2] at e0
  have e1 : (cutL L B M 0 0 0 (lst (s.extract (cutL L B M 0 0 0 (lst s))[k] s.size))).length = (cutL L B M 0 0 0 (lst s)).length - (k + 1) := by
    have := congrArg List.length e0
    rw [List.length_drop, List.length_map] at this
    exact this.symm
  refine ⟨h2, e1, ?_⟩
  rw [chkL_shift s _ 0 _ (by omega) (fun c hc => ?_), chkL_drop, ← e0, Nat.zero_add]
  · congr 1
    rw [List.take_succ_eq_append_getElem hk, lastC_snoc]
  · have := (cutL_in (L := L) (B := B) (M := M) 0 0 0 _ c hc).2
    rw [lst_extract s _ h2, List.length_drop, lst_len] at this
    omega
end Go.Proofs.Ytneeledgokccgad
