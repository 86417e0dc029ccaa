/-
  Files and ops as plain mathematics: lists of files that rise by their names.
-/
import Derived.Test.YtanlggglbpibfaaFlL
import Derived.Test.YtanlggglbpibfaaDqL
import Derived.Lib.Strings
namespace Go.Proofs.Ytanlggglbpibfaa
open Go.RowKit
set_option linter.unusedVariables false
set_option linter.unusedSimpArgs false
--BEGIN
theorem flt_irr : ∀ l, Op.bytesLess l l = false
  | [] => rfl
  | a :: l => by
    have := flt_irr l
    simp [Op.bytesLess, this]
theorem flt_trans : ∀ {a b c : List UInt8}, Op.bytesLess a b = true → Op.bytesLess b c = true → Op.bytesLess a c = true
  | [], _, [], h1, h2 => by cases h : ‹List UInt8› <;> simp_all [Op.bytesLess]
  | [], _, _ :: _, _, _ => rfl
  | x :: a, [], c, h1, _ => by simp [Op.bytesLess] at h1
  | x :: a, y :: b, [], _, h2 => by simp [Op.bytesLess] at h2
  | x :: a, y :: b, z :: c, h1, h2 => by
    simp only [Op.bytesLess, Bool.or_eq_true, decide_eq_true_eq, Bool.and_eq_true, beq_iff_eq] at *
    rcases h1 with h1 | ⟨rfl, h1⟩
    · rcases h2 with h2 | ⟨rfl, h2⟩
      · exact Or.inl (UInt8.lt_trans h1 h2)
      · exact Or.inl h1
    · rcases h2 with h2 | ⟨rfl, h2⟩
      · exact Or.inl h2
      · exact Or.inr ⟨rfl, flt_trans h1 h2⟩
theorem flt_tri : ∀ (a b : List UInt8), Op.bytesLess a b = true ∨ a = b ∨ Op.bytesLess b a = true
  | [], [] => Or.inr (Or.inl rfl)
  | [], _ :: _ => Or.inl rfl
  | _ :: _, [] => Or.inr (Or.inr rfl)
  | x :: a, y :: b => by
    simp only [Op.bytesLess, Bool.or_eq_true, decide_eq_true_eq, Bool.and_eq_true, beq_iff_eq]
    by_cases h : x < y
    · exact Or.inl (Or.inl h)
    · by_cases h' : y < x
      · exact Or.inr (Or.inr (Or.inl h'))
      · have e : x = y := UInt8.le_antisymm (UInt8.not_lt.1 h') (UInt8.not_lt.1 h)
        subst e
        rcases flt_tri a b with h1 | rfl | h1
        · exact Or.inl (Or.inr ⟨rfl, h1⟩)
        · exact Or.inr (Or.inl rfl)
        · exact Or.inr (Or.inr (Or.inr ⟨rfl, h1⟩))
def fnL (a b : ByteArray) : Prop := Op.bytesLess a.toList b.toList = true
instance (a b : ByteArray) : Decidable (fnL a b) := by unfold fnL; infer_instance
theorem bl_inj {a b : ByteArray} (h : a.toList = b.toList) : a = b := by
  rw [Lib.toList_data, Lib.toList_data] at h
  exact ByteArray.ext (Array.ext' h)
theorem fnL_ne {a b : ByteArray} (h : fnL a b) : a ≠ b := fun e => by
  subst e
  unfold fnL at h
  rw [flt_irr] at h
  cases h
theorem fnL_trans {a b c : ByteArray} (h : fnL a b) (k : fnL b c) : fnL a c := flt_trans h k
theorem fnL_no {a b : ByteArray} (h : fnL a b) : ¬ fnL b a := fun k => fnL_ne (fnL_trans h k) rfl
theorem fnL_tri (a b : ByteArray) : fnL a b ∨ a = b ∨ fnL b a := by
  rcases flt_tri a.toList b.toList with h | h | h
  · exact Or.inl h
  · exact Or.inr (Or.inl (bl_inj h))
  · exact Or.inr (Or.inr h)
/-- a name of 1 to 100 bytes -/
def nmOk (s : ByteArray) : Prop := 1 ≤ s.size ∧ s.size ≤ 100
instance (s : ByteArray) : Decidable (nmOk s) := by unfold nmOk; infer_instance
def sumD : List FlI → Nat
  | [] => 0
  | f :: L => f.d.size + sumD L
theorem sumD_app : ∀ (L M : List FlI), sumD (L ++ M) = sumD L + sumD M
  | [], M => by simp [sumD]
  | f :: L, M => by simp [sumD, sumD_app L M]; omega
theorem sumD_take (L : List FlI) (i : Nat) : sumD (L.take i) ≤ sumD L := by
  conv => rhs; rw [← List.take_append_drop i L]
  rw [sumD_app]; omega
theorem sumD_mem {L : List FlI} {f : FlI} (h : f ∈ L) : f.d.size ≤ sumD L := by
  induction L with
  | nil => cases h
  | cons g L ih =>
    rcases List.mem_cons.1 h with rfl | h
    · simp [sumD]
    · have := ih h; simp [sumD]; omega
def riseF (L : List FlI) : Prop := L.Pairwise fun a b => fnL a.a b.a
/-- files as those of a right disk -/
structure filesP (L : List FlI) : Prop where
  len : L.length ≤ 60
  nm : ∀ f ∈ L, nmOk f.a
  rise : riseF L
  sum : sumD L ≤ 200000
/-- the data of a file -/
def fdF : List FlI → ByteArray → Option ByteArray
  | [], _ => none
  | f :: L, s => if f.a = s then some f.d else fdF L s
/-- a file is gone -/
def cutF : List FlI → ByteArray → List FlI
  | [], _ => []
  | f :: L, s => if f.a = s then cutF L s else f :: cutF L s
/-- a file with this name and data -/
def putF : List FlI → ByteArray → ByteArray → List FlI
  | [], s, d => [⟨s, d⟩]
  | f :: L, s, d => if fnL f.a s then f :: putF L s d else if f.a = s then ⟨s, d⟩ :: L else ⟨s, d⟩ :: f :: L
theorem fdF_mem {L : List FlI} {s d : ByteArray} (h : fdF L s = some d) : (⟨s, d⟩ : FlI) ∈ L := by
  induction L with
  | nil => cases h
  | cons f L ih =>
    unfold fdF at h
    split at h
    · rename_i e
      cases h
      subst e
      exact List.mem_cons_self
    · exact List.mem_cons_of_mem _ (ih h)
theorem fdF_none {L : List FlI} {s : ByteArray} : fdF L s = none ↔ ∀ f ∈ L, f.a ≠ s := by
  induction L with
  | nil => simp [fdF]
  | cons f L ih =>
    unfold fdF
    split
    · rename_i e
      simp [e]
    · rename_i e
      rw [ih]
      simp [e]
theorem fdF_of {L : List FlI} (hr : riseF L) {f : FlI} (h : f ∈ L) : fdF L f.a = some f.d := by
  induction L with
  | nil => cases h
  | cons g L ih =>
    unfold riseF at hr
    rw [List.pairwise_cons] at hr
    unfold fdF
    rcases List.mem_cons.1 h with rfl | h
    · rw [if_pos rfl]
    · rw [if_neg (fnL_ne (hr.1 f h)), ih hr.2 h]
theorem fdF_app (L M : List FlI) (s : ByteArray) : fdF (L ++ M) s = (fdF L s).orElse fun _ => fdF M s := by
  induction L with
  | nil => rfl
  | cons f L ih =>
    show (if f.a = s then some f.d else fdF (L ++ M) s) = Option.orElse (if f.a = s then some f.d else fdF L s) _
    split
    · rfl
    · exact ih
theorem fdF_put_same (L : List FlI) (s d : ByteArray) : fdF (putF L s d) s = some d := by
  induction L with
  | nil => simp [putF, fdF]
  | cons f L ih =>
    unfold putF
    split
    · rename_i h
      unfold fdF
      rw [if_neg (fnL_ne h), ih]
    · split <;> simp [fdF]
theorem fdF_put_other (L : List FlI) {s x : ByteArray} (d : ByteArray) (h : x ≠ s) : fdF (putF L s d) x = fdF L x := by
  induction L with
  | nil => simp [putF, fdF, h.symm]
  | cons f L ih =>
    unfold putF
    split
    · unfold fdF
      rw [ih]
    · split
      · rename_i e
        show (if s = x then some d else fdF L x) = if f.a = x then some f.d else fdF L x
        rw [e, if_neg (Ne.symm h), if_neg (Ne.symm h)]
      · show (if s = x then some d else fdF (f :: L) x) = _
        rw [if_neg (Ne.symm h)]
theorem fdF_cut_same (L : List FlI) (s : ByteArray) : fdF (cutF L s) s = none := by
  induction L with
  | nil => rfl
  | cons f L ih =>
    unfold cutF
    split
    · exact ih
    · rename_i h
      unfold fdF
      rw [if_neg h, ih]
theorem fdF_cut_other (L : List FlI) {s x : ByteArray} (h : x ≠ s) : fdF (cutF L s) x = fdF L x := by
  induction L with
  | nil => rfl
  | cons f L ih =>
    unfold cutF
    split
    · rename_i e
      rw [ih]
      simp only [fdF, e]
      rw [if_neg h.symm]
    · unfold fdF
      rw [ih]
theorem putF_mem {L : List FlI} {s d : ByteArray} {f : FlI} (h : f ∈ putF L s d) : f = ⟨s, d⟩ ∨ f ∈ L := by
  induction L with
  | nil => simp [putF] at h; exact Or.inl h
  | cons g L ih =>
    unfold putF at h
    split at h
    · rcases List.mem_cons.1 h with rfl | h
      · exact Or.inr List.mem_cons_self
      · rcases ih h with h | h
        · exact Or.inl h
        · exact Or.inr (List.mem_cons_of_mem _ h)
    · split at h
      · rcases List.mem_cons.1 h with rfl | h
        · exact Or.inl rfl
        · exact Or.inr (List.mem_cons_of_mem _ h)
      · rcases List.mem_cons.1 h with rfl | h
        · exact Or.inl rfl
        · exact Or.inr h
theorem cutF_mem {L : List FlI} {s : ByteArray} {f : FlI} (h : f ∈ cutF L s) : f ∈ L ∧ f.a ≠ s := by
  induction L with
  | nil => cases h
  | cons g L ih =>
    unfold cutF at h
    split at h
    · exact ⟨List.mem_cons_of_mem _ (ih h).1, (ih h).2⟩
    · rename_i e
      rcases List.mem_cons.1 h with rfl | h
      · exact ⟨List.mem_cons_self, e⟩
      · exact ⟨List.mem_cons_of_mem _ (ih h).1, (ih h).2⟩
theorem riseF_put {L : List FlI} (h : riseF L) (s d : ByteArray) : riseF (putF L s d) := by
  induction L with
  | nil => simp [putF, riseF]
  | cons g L ih =>
    unfold riseF at h
    rw [List.pairwise_cons] at h
    unfold putF
    split
    · rename_i e
      unfold riseF
      rw [List.pairwise_cons]
      refine ⟨fun f hf => ?_, ih h.2⟩
      rcases putF_mem hf with rfl | hf
      · exact e
      · exact h.1 f hf
    · rename_i e
      split
      · rename_i e2
        unfold riseF
        rw [List.pairwise_cons]
        exact ⟨fun f hf => by have := h.1 f hf; rwa [e2] at this, h.2⟩
      · rename_i e2
        have hs : fnL s g.a := by
          rcases fnL_tri g.a s with k | k | k
          · exact absurd k e
          · exact absurd k e2
          · exact k
        unfold riseF
        rw [List.pairwise_cons, List.pairwise_cons]
        refine ⟨fun f hf => ?_, h⟩
        rcases List.mem_cons.1 hf with rfl | hf
        · exact hs
        · exact fnL_trans hs (h.1 f hf)
theorem riseF_cut {L : List FlI} (h : riseF L) (s : ByteArray) : riseF (cutF L s) := by
  induction L with
  | nil => exact List.Pairwise.nil
  | cons g L ih =>
    unfold riseF at h
    rw [List.pairwise_cons] at h
    unfold cutF
    split
    · exact ih h.2
    · unfold riseF
      rw [List.pairwise_cons]
      exact ⟨fun f hf => h.1 f (cutF_mem hf).1, ih h.2⟩
theorem cutF_id {L : List FlI} {s : ByteArray} (h : ∀ f ∈ L, f.a ≠ s) : cutF L s = L := by
  induction L with
  | nil => rfl
  | cons g L ih =>
    unfold cutF
    rw [if_neg (h g (by simp)), ih fun f hf => h f (List.mem_cons_of_mem _ hf)]
theorem above_ne {L : List FlI} {s : ByteArray} (h : ∀ f ∈ L, fnL s f.a) : fdF L s = none := fdF_none.2 fun f hf e => fnL_ne (h f hf) e.symm
/-- how many files, how many bytes there are behind it -/
theorem putF_size {L : List FlI} (h : riseF L) (s d : ByteArray) : (putF L s d).length = (if (fdF L s).isSome then L.length else L.length + 1) ∧ sumD (putF L s d) + ((fdF L s).getD ⟨#[]⟩).size = sumD L + d.size := by
  induction L with
  | nil => exact ⟨rfl, by show d.size + 0 + 0 = 0 + d.size; omega⟩
  | cons g L ih =>
    unfold riseF at h
    rw [List.pairwise_cons] at h
    obtain ⟨ih1, ih2⟩ := ih h.2
    unfold putF
    split
    · rename_i e
      have e0 : fdF (g :: L) s = fdF L s := by
        show (if g.a = s then some g.d else fdF L s) = _
        rw [if_neg (fnL_ne e)]
      rw [e0]
      constructor
      · rw [List.length_cons, ih1]; split <;> simp
      · simp only [sumD]; omega
    · rename_i e
      split
      · rename_i e2
        have e0 : fdF (g :: L) s = some g.d := by
          show (if g.a = s then some g.d else fdF L s) = _
          rw [if_pos e2]
        rw [e0]
        constructor
        · simp
        · simp only [sumD, Option.getD_some]; omega
      · rename_i e2
        have hs : fnL s g.a := by
          rcases fnL_tri g.a s with k | k | k
          · exact absurd k e
          · exact absurd k e2
          · exact k
        have e0 : fdF (g :: L) s = none := above_ne fun f hf => by
          rcases List.mem_cons.1 hf with rfl | hf
          · exact hs
          · exact fnL_trans hs (h.1 f hf)
        rw [e0]
        constructor
        · simp
        · have z : (⟨#[]⟩ : ByteArray).size = 0 := rfl
          simp only [sumD, Option.getD_none, z]; omega
theorem cutF_size {L : List FlI} (h : riseF L) (s : ByteArray) : (cutF L s).length = (if (fdF L s).isSome then L.length - 1 else L.length) ∧ sumD (cutF L s) + ((fdF L s).getD ⟨#[]⟩).size = sumD L := by
  have z : (⟨#[]⟩ : ByteArray).size = 0 := rfl
  induction L with
  | nil => exact ⟨rfl, rfl⟩
  | cons g L ih =>
    unfold riseF at h
    rw [List.pairwise_cons] at h
    obtain ⟨ih1, ih2⟩ := ih h.2
    unfold cutF
    split
    · rename_i e
      have e0 : fdF (g :: L) s = some g.d := by
        show (if g.a = s then some g.d else fdF L s) = _
        rw [if_pos e]
      have e1 : ∀ f ∈ L, f.a ≠ s := fun f hf c => fnL_ne (h.1 f hf) (by rw [e, c])
      rw [e0, cutF_id e1]
      constructor
      · simp
      · simp only [sumD, Option.getD_some]; omega
    · rename_i e
      have e0 : fdF (g :: L) s = fdF L s := by
        show (if g.a = s then some g.d else fdF L s) = _
        rw [if_neg e]
      rw [e0]
      constructor
      · rw [List.length_cons, ih1]
        split
        · rename_i hs
          have : L ≠ [] := by rintro rfl; cases hs
          have := List.length_pos_iff.2 this
          simp; omega
        · simp
      · simp only [sumD]; omega
/-- two rising lists that give the same are one -/
theorem fdF_ext {L M : List FlI} (hL : riseF L) (hM : riseF M) (h : ∀ s, fdF L s = fdF M s) : L = M := by
  have n1 : L.Nodup := List.Pairwise.imp (S := (· ≠ ·)) (fun {a b} h e => fnL_ne h (congrArg FlI.a e)) hL
  have n2 : M.Nodup := List.Pairwise.imp (S := (· ≠ ·)) (fun {a b} h e => fnL_ne h (congrArg FlI.a e)) hM
  have hp : L.Perm M := (List.perm_ext_iff_of_nodup n1 n2).2 fun f => by
    constructor
    · intro hf
      have := fdF_of hL hf
      rw [h] at this
      exact fdF_mem this
    · intro hf
      have := fdF_of hM hf
      rw [← h] at this
      exact fdF_mem this
  exact List.Perm.eq_of_pairwise (le := fun a b : FlI => fnL a.a b.a) (fun a b _ _ x y => absurd y (fnL_no x)) hL hM hp
/-- the spec's way to put: one by one -/
theorem putF_below {L : List FlI} {s d : ByteArray} (h : ∀ f ∈ L, fnL f.a s) : putF L s d = L ++ [⟨s, d⟩] := by
  induction L with
  | nil => rfl
  | cons g L ih =>
    unfold putF
    rw [if_pos (h g (by simp)), ih fun f hf => h f (List.mem_cons_of_mem _ hf)]
    rfl
theorem putF_hit {L : List FlI} {s d : ByteArray} {f : FlI} (h : ∀ g ∈ L, fnL g.a s) (hf : ¬ fnL f.a s) : putF (L ++ [f]) s d = L ++ [⟨s, d⟩] ++ (if f.a = s then [] else [f]) := by
  induction L with
  | nil =>
    show putF [f] s d = _
    unfold putF
    rw [if_neg hf]
    split <;> rfl
  | cons g L ih =>
    show putF (g :: (L ++ [f])) s d = _
    unfold putF
    rw [if_pos (h g (by simp)), ih fun f hf => h f (List.mem_cons_of_mem _ hf)]
    simp
theorem putF_snoc {L : List FlI} {s d : ByteArray} {f : FlI} (h : ∃ g ∈ L, ¬ fnL g.a s) : putF (L ++ [f]) s d = putF L s d ++ [f] := by
  induction L with
  | nil => obtain ⟨g, hg, _⟩ := h; cases hg
  | cons g L ih =>
    show putF (g :: (L ++ [f])) s d = _
    unfold putF
    by_cases hg : fnL g.a s
    · rw [if_pos hg, if_pos hg, ih ?_]
      · rfl
      · obtain ⟨x, hx, k⟩ := h
        rcases List.mem_cons.1 hx with rfl | hx
        · exact absurd hg k
        · exact ⟨x, hx, k⟩
    · rw [if_neg hg, if_neg hg]
      split <;> rfl
theorem cutF_app (L M : List FlI) (s : ByteArray) : cutF (L ++ M) s = cutF L s ++ cutF M s := by
  induction L with
  | nil => rfl
  | cons g L ih =>
    show (if g.a = s then cutF (L ++ M) s else g :: cutF (L ++ M) s) = (if g.a = s then cutF L s else g :: cutF L s) ++ cutF M s
    split
    · exact ih
    · rw [ih]; rfl
/-- an op of its form -/
def opP (o : DqI) : Prop := (1 ≤ o.m ∧ o.m ≤ 3) ∧ nmOk o.a ∧ (if o.m = 2 then nmOk o.p ∧ o.d = ⟨#[]⟩ else o.p = ⟨#[]⟩ ∧ (o.m = 1 ∨ o.d = ⟨#[]⟩))
instance (o : DqI) : Decidable (opP o) := by unfold opP; infer_instance
/-- the files behind an op; none: it finds no file -/
def doF (L : List FlI) (o : DqI) : Option (List FlI) :=
  if o.m = 1 then some (putF L o.a ((fdF L o.a).getD ⟨#[]⟩ ++ o.d))
  else match fdF L o.a with
    | none => none
    | some x => some (if o.m = 2 then putF (cutF L o.a) o.p x else cutF L o.a)
theorem doF_rise {L M : List FlI} {o : DqI} (h : riseF L) (k : doF L o = some M) : riseF M := by
  unfold doF at k
  split at k
  · cases k; exact riseF_put h _ _
  · split at k
    · cases k
    · cases k
      split
      · exact riseF_put (riseF_cut h _) _ _
      · exact riseF_cut h _
theorem doF_nm {L M : List FlI} {o : DqI} (h : ∀ f ∈ L, nmOk f.a) (ho : opP o) (k : doF L o = some M) : ∀ f ∈ M, nmOk f.a := by
  obtain ⟨_, h1, h2⟩ := ho
  unfold doF at k
  split at k
  · cases k
    intro f hf
    rcases putF_mem hf with rfl | hf
    · exact h1
    · exact h f hf
  · split at k
    · cases k
    · cases k
      intro f hf
      split at hf
      · rename_i e
        rw [if_pos e] at h2
        rcases putF_mem hf with rfl | hf
        · exact h2.1
        · exact h f (cutF_mem hf).1
      · exact h f (cutF_mem hf).1
instance (L : List FlI) : Decidable (riseF L) := by unfold riseF; infer_instance
instance (L : List FlI) : Decidable (filesP L) := decidable_of_iff (L.length ≤ 60 ∧ (∀ f ∈ L, nmOk f.a) ∧ riseF L ∧ sumD L ≤ 200000) ⟨fun ⟨a, b, c, d⟩ => ⟨a, b, c, d⟩, fun h => ⟨h.len, h.nm, h.rise, h.sum⟩⟩
/-- ops one by one; none: one is not of its form, finds no file, or leaves too much -/
def stepF (L : List FlI) (o : DqI) : Option (List FlI) := if opP o then match doF L o with
    | none => none
    | some M => if filesP M then some M else none
  else none
def runF (L : List FlI) : List DqI → Option (List FlI)
  | [] => some L
  | o :: O => match stepF L o with
    | none => none
    | some M => runF M O
theorem runF_app (L : List FlI) : ∀ (O P : List DqI), runF L (O ++ P) = (runF L O).bind fun M => runF M P
  | [], P => rfl
  | o :: O, P => by
    show (match stepF L o with | none => none | some M => runF M (O ++ P)) = _
    cases h : stepF L o with
    | none => simp [runF, h]
    | some M => simp [runF, h, runF_app M O P]
theorem stepF_files {L M : List FlI} {o : DqI} (h : stepF L o = some M) : filesP M := by
  unfold stepF at h
  split at h
  · split at h
    · cases h
    · split at h
      · cases h; assumption
      · cases h
  · cases h
theorem runF_files {L M : List FlI} : ∀ {O : List DqI}, filesP L → runF L O = some M → filesP M
  | [], h, k => by cases k; exact h
  | o :: O, h, k => by
    unfold runF at k
    split at k
    · cases k
    · rename_i M' e
      exact runF_files (stepF_files e) k
theorem runF_snoc {L M : List FlI} {O : List DqI} {o : DqI} (h : runF L O = some M) : runF L (O ++ [o]) = stepF M o := by
  rw [runF_app, h]
  show (match stepF M o with | none => none | some M => runF M []) = _
  cases stepF M o <;> rfl
theorem runF_stop {L : List FlI} {O P : List DqI} (h : runF L O = none) : runF L (O ++ P) = none := by
  rw [runF_app, h]; rfl
/-- a disk that is right -/
structure diskP (L S : List FlI) (O : List DqI) : Prop where
  safe : filesP S
  few : O.length ≤ 200
  run : runF S O = some L
theorem diskP.live {L S : List FlI} {O : List DqI} (h : diskP L S O) : filesP L := runF_files h.safe h.run
noncomputable def dkB (L S : List FlI) (O : List DqI) : Bool := open Classical in decide (diskP L S O)
theorem dkB_yes {L S : List FlI} {O : List DqI} (h : diskP L S O) : dkB L S O = true := by unfold dkB; exact (open Classical in decide_eq_true h)
theorem dkB_no {L S : List FlI} {O : List DqI} (h : ¬ diskP L S O) : dkB L S O = false := by unfold dkB; exact (open Classical in decide_eq_false h)
--END
end Go.Proofs.Ytanlggglbpibfaa
