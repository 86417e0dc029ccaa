/-
  A block of members is read back from its text; what is read has just its text: plain mathematics.
-/
import Derived.Test.YtbkjcngehhdchaaPk33
import Derived.Test.YtbkjcngehhdchaaTextBack
namespace Go.Proofs.Ytbkjcngehhdchaa
open Go.RowKit
set_option linter.unusedVariables false
set_option linter.unusedSimpArgs false
theorem numP_put (n : Nat) (hn : n ≤ 1000000000000) (r : ByteArray) : numI (pmB n ++ r) = some (n, r) := by
  have h := num_put n (by omega) r
  have h2 := numI_some h (by omega)
  rw [Int.toNat_natCast] at h2
  have e : (⟨(put n).toArray⟩ : ByteArray) = pmB n := rfl
  rw [e] at h2
  rw [h2]
  have h3 := ext_tail2 (put n) r
  rw [e] at h3
  rw [h3]
theorem numP_back {s r : ByteArray} {n : Nat} (h : numI s = some (n, r)) : pmB n ++ r = s := by
  unfold numI at h
  cases hn : num s with
  | none => rw [hn] at h; cases h
  | some p =>
    obtain ⟨X, u⟩ := p
    rw [hn] at h
    simp only at h
    split at h
    · simp only [Option.some.injEq, Prod.mk.injEq] at h
      obtain ⟨m, rfl, hm, hb⟩ := num_back hn
      obtain ⟨h1, h2⟩ := h
      rw [Int.toNat_natCast] at h1
      subst h1 h2
      exact hb
    · cases h
theorem datP_put (s r : ByteArray) (h : s.size ≤ 100000) : datI (putTextOut s ++ r) = some (s, r) := by
  have h1 := text_put s r h
  rw [datI_out] at h1
  cases hd : datI (putTextOut s ++ r) with
  | none => rw [hd] at h1; simp at h1
  | some p =>
    obtain ⟨d, q⟩ := p
    rw [hd] at h1
    simp at h1
    rw [h1.1, h1.2]
theorem datP_back {s d r : ByteArray} (h : datI s = some (d, r)) : putTextOut d ++ r = s ∧ d.size ≤ 100000 := by
  unfold datI at h
  cases ht : txt s with
  | none => rw [ht] at h; cases h
  | some p =>
    obtain ⟨n, u⟩ := p
    rw [ht] at h
    simp only [Option.some.injEq, Prod.mk.injEq] at h
    obtain ⟨h1, h2, h3⟩ := text_back ht
    obtain ⟨rfl, rfl⟩ := h
    exact ⟨h1, by rw [ByteArray.size_extract]; omega⟩
theorem bp_nil0 (a : ByteArray) : (⟨#[]⟩ : ByteArray) ++ a = a := by
  apply bytes_ext
  rw [app_data]; simp
/-- the names and sizes as they are written -/
def noP (P : Nat → ByteArray × Nat) : Nat → ByteArray
  | 0 => ⟨#[]⟩
  | i + 1 => (noP P i ++ putTextOut (P i).1) ++ pmB (P i).2
theorem noP_same {P Q : Nat → ByteArray × Nat} : ∀ n, (∀ i, i < n → P i = Q i) → noP P n = noP Q n
  | 0, _ => rfl
  | n + 1, h => by
    show (noP P n ++ putTextOut (P n).1) ++ pmB (P n).2 = (noP Q n ++ putTextOut (Q n).1) ++ pmB (Q n).2
    rw [noP_same n (fun i hi => h i (by omega)), h n (by omega)]
theorem soB_noP (F : Nat → MbI) (n : Nat) : ∀ i, soB F n i = pmB n ++ noP (fun j => ((F j).a, (F j).d.size)) i
  | 0 => by
    show pmB n = pmB n ++ ⟨#[]⟩
    apply bytes_ext; rw [app_data]; simp
  | i + 1 => by
    show (soB F n i ++ putTextOut (F i).a) ++ pmB (F i).d.size = pmB n ++ ((noP _ i ++ putTextOut (F i).a) ++ pmB (F i).d.size)
    rw [soB_noP F n i, app_assoc, app_assoc, app_assoc]
theorem naI_put (P : Nat → ByteArray × Nat) (n : Nat) (hP : ∀ i, i < n → (P i).1.size ≤ 100000 ∧ (P i).2 ≤ 1000000000000) : ∀ i, i ≤ n → ∀ r, naI (noP P i ++ r) i = some ((List.range i).map P, r)
  | 0, _, r => by
    show some ([], (⟨#[]⟩ : ByteArray) ++ r) = _
    rw [bp_nil0]; rfl
  | i + 1, h, r => by
    have h0 := naI_put P n hP i (by omega) (putTextOut (P i).1 ++ (pmB (P i).2 ++ r))
    have e : noP P (i + 1) ++ r = noP P i ++ (putTextOut (P i).1 ++ (pmB (P i).2 ++ r)) := by
      show ((noP P i ++ putTextOut (P i).1) ++ pmB (P i).2) ++ r = _
      rw [app_assoc, app_assoc]
    rw [e]
    have hp := hP i (by omega)
    rw [naI_go h0 (datP_put _ _ hp.1) (numP_put _ hp.2 _)]
    rw [List.range_succ, List.map_append]; rfl
theorem naI_back {r : ByteArray} : ∀ (i : Nat) {L : List (ByteArray × Nat)} {r' : ByteArray}, naI r i = some (L, r') → noP (fun j => L.getD j (⟨#[]⟩, 0)) i ++ r' = r ∧ ∀ p ∈ L, p.1.size ≤ 100000
  | 0, L, r', h => by
    have h : some ([], r) = some (L, r') := h
    cases h
    exact ⟨bp_nil0 r, fun p hp => by cases hp⟩
  | i + 1, L, r', h => by
    unfold naI at h
    cases h0 : naI r i with
    | none => rw [h0] at h; cases h
    | some q =>
      obtain ⟨L0, r1⟩ := q
      rw [h0] at h
      simp only [] at h
      have a0 := naI_back i h0
      have al := (naI_bd h0).1
      cases h1 : datI r1 with
      | none => rw [h1] at h; cases h
      | some q1 =>
        obtain ⟨a, r2⟩ := q1
        rw [h1] at h
        simp only [] at h
        have b1 := datP_back h1
        cases h2 : numI r2 with
        | none => rw [h2] at h; cases h
        | some q2 =>
          obtain ⟨z, r3⟩ := q2
          rw [h2] at h
          have c2 := numP_back h2
          cases h
          refine ⟨?_, fun p hp => ?_⟩
          · show ((noP (fun j => (L0 ++ [(a, z)]).getD j (⟨#[]⟩, 0)) i ++ putTextOut ((L0 ++ [(a, z)]).getD i (⟨#[]⟩, 0)).1) ++ pmB ((L0 ++ [(a, z)]).getD i (⟨#[]⟩, 0)).2) ++ _ = _
            rw [gD_end L0 _ al.symm, noP_same (Q := fun j => L0.getD j (⟨#[]⟩, 0)) i (fun j hj => gD_app L0 _ (by omega))]
            show ((noP _ i ++ putTextOut a) ++ pmB z) ++ _ = _
            rw [app_assoc, app_assoc, c2, b1.1, a0.1]
          · rcases List.mem_append.1 hp with hp | hp
            · exact a0.2 p hp
            · simp at hp; subst hp; exact b1.2
theorem alB_list (F : Nat → MbI) (n : Nat) : (alB F (n + 1)).data.toList = (alB F n).data.toList ++ (F n).d.data.toList := app_data _ _
theorem alB_len (F : Nat → MbI) (n : Nat) : (alB F n).data.toList.length = mbSum F n := by
  rw [← alB_size F n]
  show (alB F n).data.toList.length = (alB F n).data.size
  simp
theorem alB_ext (F : Nat → MbI) : ∀ (n i : Nat), i < n → (alB F n).extract (mbSum F i) (mbSum F (i + 1)) = (F i).d
  | 0, i, h => absurd h (by omega)
  | n + 1, i, h => by
    apply bytes_ext
    rw [ext_lst, alB_list]
    have h1 : mbSum F (i + 1) = mbSum F i + (F i).d.size := rfl
    by_cases hi : i < n
    · have h2 := mbSum_mono F (i := i + 1) (n := n) (by omega)
      have hl := alB_len F n
      rw [List.drop_append_of_le_length (by omega), List.take_append_of_le_length (by rw [List.length_drop]; omega)]
      have h3 := alB_ext F n i hi
      rw [← ext_lst, h3]
    · obtain rfl : i = n := by omega
      have hl := alB_len F i
      rw [← hl, List.drop_left', hl]
      · have hd : (F i).d.data.toList.length = (F i).d.size := by show (F i).d.data.toList.length = (F i).d.data.size; simp
        rw [show mbSum F (i + 1) - mbSum F i = (F i).d.data.toList.length by omega, List.take_length]
      · rfl
def nsP (F : Nat → MbI) (j : Nat) : ByteArray × Nat := ((F j).a, (F j).d.size)
theorem nsP_at (F : Nat → MbI) (n j : Nat) (h : j < n) : ((List.range n).map (nsP F)).getD j (⟨#[]⟩, 0) = nsP F j := by
  rw [List.getD_eq_getElem?_getD, List.getElem?_map, List.getElem?_range h]; rfl
theorem szS_nsP (F : Nat → MbI) (n : Nat) : ∀ i, i ≤ n → szS ((List.range n).map (nsP F)) i = mbSum F i
  | 0, _ => rfl
  | i + 1, h => by
    show szS _ i + (((List.range n).map (nsP F)).getD i (⟨#[]⟩, 0)).2 = mbSum F i + (F i).d.size
    rw [szS_nsP F n i (by omega), nsP_at F n i (by omega)]; rfl
theorem mL_nsP (L : List MbI) : mL ((List.range L.length).map (nsP (mbF L))) (alB (mbF L) L.length) = L := by
  apply List.ext_getElem
  · rw [mL_len]; simp
  · intro i h1 h2
    have h3 := mL_at ((List.range L.length).map (nsP (mbF L))) (alB (mbF L) L.length) (i := i) (by simpa using h2)
    rw [mbF_at (by rw [mL_len]; simpa using h2)] at h3
    rw [h3]
    unfold mOf
    rw [nsP_at _ _ _ h2, szS_nsP _ _ _ (by omega), szS_nsP _ _ _ (by omega), alB_ext _ _ _ h2]
    have e := mbF_at (L := L) h2
    show (⟨(mbF L i).a, (mbF L i).d⟩ : MbI) = _
    rw [e]
/-- what is written is read back -/
theorem rdS_put (L : List MbI) (h : mbR (mbF L) L.length) : rdS (soV (mbF L) L.length) = some L := by
  have hn := h.1
  have hal : (alB (mbF L) L.length).size ≤ 4000 := by rw [alB_size]; exact h.2.2.1
  have hpk := pck_size hal
  have hP : ∀ i, i < L.length → (nsP (mbF L) i).1.size ≤ 100000 ∧ (nsP (mbF L) i).2 ≤ 1000000000000 := fun i hi => by
    have h1 := (h.2.1 i hi).2
    have h2 : mbSum (mbF L) (i + 1) ≤ mbSum (mbF L) L.length := mbSum_mono _ (by omega)
    have h3 : mbSum (mbF L) (i + 1) = mbSum (mbF L) i + (mbF L i).d.size := rfl
    have h4 := h.2.2.1
    exact ⟨by show (mbF L i).a.size ≤ _; omega, by show (mbF L i).d.size ≤ _; omega⟩
  have e : soV (mbF L) L.length = pmB L.length ++ (noP (nsP (mbF L)) L.length ++ (putTextOut (pckB (alB (mbF L) L.length)) ++ sumB (alB (mbF L) L.length))) := by
    unfold soV
    rw [soB_noP, app_assoc, app_assoc]; rfl
  rw [e]
  have h0 := numP_put L.length (by omega) (noP (nsP (mbF L)) L.length ++ (putTextOut (pckB (alB (mbF L) L.length)) ++ sumB (alB (mbF L) L.length)))
  have h1 := naI_put (nsP (mbF L)) L.length hP L.length (Nat.le_refl _) (putTextOut (pckB (alB (mbF L) L.length)) ++ sumB (alB (mbF L) L.length))
  have h2 := datP_put (pckB (alB (mbF L) L.length)) (sumB (alB (mbF L) L.length)) (by omega)
  have h3 := unp_pack hal
  have em := mL_nsP L
  have h4 := rdS_yes h0 hn h1 h2 h3 ⟨rfl, by rw [szS_nsP _ _ _ (Nat.le_refl _), alB_size], by rw [em]; exact h⟩
  rw [em] at h4
  exact h4
/-- what is read has just its text -/
theorem rdS_back {s : ByteArray} {L : List MbI} (h : rdS s = some L) : mbR (mbF L) L.length ∧ soV (mbF L) L.length = s := by
  cases h0 : numI s with
  | none => rw [rdS_no1 h0] at h; cases h
  | some q =>
    obtain ⟨n, r⟩ := q
    by_cases hn : n ≤ 60
    · cases h1 : naI r n with
      | none => rw [rdS_no3 h0 h1] at h; cases h
      | some q =>
        obtain ⟨L0, r1⟩ := q
        have hl := (naI_bd h1).1
        cases h2 : datI r1 with
        | none => rw [rdS_no4 h0 h1 h2] at h; cases h
        | some q =>
          obtain ⟨p, t⟩ := q
          cases h3 : unp p with
          | none => rw [rdS_no5 h0 h1 h2 h3] at h; cases h
          | some d =>
            by_cases h4 : sumB d = t ∧ szS L0 n = d.size ∧ mbR (mbF (mL L0 d)) n
            · rw [rdS_yes h0 hn h1 h2 h3 h4] at h
              cases h
              rw [mL_len, hl]
              refine ⟨h4.2.2, ?_⟩
              have hF : ∀ i, i < n → mbF (mL L0 d) i = mOf L0 d i := fun i hi => mL_at L0 d (by omega)
              have hsz : ∀ i, i < n → (mOf L0 d i).d.size = (L0.getD i (⟨#[]⟩, 0)).2 := fun i hi => by
                have m1 := szS_mono L0 (i := i + 1) (n := n) hi
                have m2 : szS L0 (i + 1) = szS L0 i + (L0.getD i (⟨#[]⟩, 0)).2 := rfl
                have m3 := h4.2.1
                show (d.extract (szS L0 i) (szS L0 (i + 1))).size = _
                rw [ByteArray.size_extract]; omega
              have hal : ∀ i, i ≤ n → alB (mbF (mL L0 d)) i = d.extract 0 (szS L0 i) := by
                intro i
                induction i with
                | zero => intro _; apply bytes_ext; rw [ext_lst]; show ([] : List UInt8) = _; simp [szS]
                | succ i ih =>
                  intro hi
                  have m1 := szS_mono L0 (i := i + 1) (n := n) hi
                  have m2 : szS L0 (i + 1) = szS L0 i + (L0.getD i (⟨#[]⟩, 0)).2 := rfl
                  have m3 := h4.2.1
                  show alB (mbF (mL L0 d)) i ++ (mbF (mL L0 d) i).d = _
                  rw [ih (by omega), hF i (by omega)]
                  show d.extract 0 (szS L0 i) ++ d.extract (szS L0 i) (szS L0 (i + 1)) = _
                  apply bytes_ext
                  rw [app_data, ext_lst, ext_lst, ext_lst]
                  rw [List.drop_zero, Nat.sub_zero, Nat.sub_zero]
                  rw [show szS L0 (i + 1) = szS L0 i + (szS L0 (i + 1) - szS L0 i) by omega, List.take_add]
                  congr 2; omega
              have hd : alB (mbF (mL L0 d)) n = d := by
                rw [hal n (Nat.le_refl _), h4.2.1]; exact ByteArray.extract_zero_size
              unfold soV
              rw [soB_noP, noP_same (Q := fun j => L0.getD j (⟨#[]⟩, 0)) n (fun i hi => by
                show ((mbF (mL L0 d) i).a, (mbF (mL L0 d) i).d.size) = _
                rw [hF i hi, hsz i hi]; rfl), hd, (unp_some h3).2, h4.1, app_assoc, app_assoc, (datP_back h2).1, (naI_back n h1).1, numP_back h0]
            · rw [rdS_no6 h0 h1 h2 h3 h4] at h; cases h
    · rw [rdS_no2 h0 (by omega)] at h; cases h
end Go.Proofs.Ytbkjcngehhdchaa
