/-
  What was coded, and the coder that reads it from the beginning.
-/
import Derived.Test.YtmckchklebohmacDecB
namespace Go.Proofs.Ytmckchklebohmac
set_option linter.unusedVariables false
theorem bsOf_bl {S : ByteArray} {i : Nat} (h : i < S.size) : (bl S)[i]? = some (bsOf S i) := by
  have h2 : i < S.data.toList.length := by rw [← Lib.size_eq]; exact h
  unfold bl
  rw [List.getElem?_map, List.getElem?_eq_getElem h2]
  have hb := bsOf_at S i h
  have e : S.data.toList[i] = S[i] := rfl
  rw [e]
  simp only [Option.map_some, Option.some.injEq]
  omega
theorem bl_rest (S : ByteArray) (k : Nat) : bl (S.extract k S.size) = (bl S).drop k := by
  unfold bl
  rw [Lib.extract_to_end, List.map_drop]
theorem bl_len (S : ByteArray) : (bl S).length = S.size := by unfold bl; rw [List.length_map, ← Lib.size_eq]
theorem val_bigL (n : Nat) (h : n < 4294967296) : val ((bigL n 4).map (·.toNat)) = n ∧ (bigL n 4).length = 4 := by
  have e : bigL n 4 = [UInt8.ofNat (n / 256 / 256 / 256), UInt8.ofNat (n / 256 / 256), UInt8.ofNat (n / 256), UInt8.ofNat n] := rfl
  rw [e]
  refine ⟨?_, rfl⟩
  simp only [List.map_cons, List.map_nil, UInt8.toNat_ofNat', val, List.length_cons, List.length_nil]
  omega
theorem encB_bl (s : RS) (h : s.Fine) : bl (encB s) = s.out ++ (bigL (s.low % 4294967296) 4).map (·.toNat) := by
  unfold encB bl
  have e : ((⟨(s.out.map UInt8.ofNat).toArray⟩ ++ ⟨(bigL (s.low % 4294967296) 4).toArray⟩ : ByteArray)).data.toList = s.out.map UInt8.ofNat ++ bigL (s.low % 4294967296) 4 := by simp
  rw [e, List.map_append, List.map_map]
  congr 1
  have : ∀ l : List Nat, (∀ x ∈ l, x < 256) → l.map ((fun x => x.toNat) ∘ UInt8.ofNat) = l := by
    intro l hl
    induction l with
    | nil => rfl
    | cons a l ih =>
      rw [List.map_cons, ih (fun x hx => hl x (List.mem_cons_of_mem _ hx))]
      have ha := hl a (List.mem_cons_self ..)
      congr 1
      simp; omega
  exact this _ h.outs
theorem val_enc (s : RS) (h : s.Fine) : val (bl (encB s)) = s.N ∧ (bl (encB s)).length = s.out.length + 4 := by
  obtain ⟨h1, h2⟩ := val_bigL (s.low % 4294967296) (by omega)
  rw [encB_bl s h]
  refine ⟨?_, by rw [List.length_append, List.length_map, h2]⟩
  rw [val_append, List.length_map, h2, h1]
  unfold RS.N
  omega
/-- the coder that reads, behind the first choices -/
def dq (S : ByteArray) (F : Nat → Int × Int) : Nat → DS
  | 0 => DS.start (code0 S) (bl (rest0 S))
  | i + 1 => (dq S F i).go (F i).1.toNat
set_option maxRecDepth 100000 in
theorem dq_fine (S : ByteArray) (F : Nat → Int × Int) (i : Nat) : (dq S F i).Fine := by
  induction i with
  | zero => exact DS.start_fine (pt4_lt (bsOf_lt _) 0) (bl_lt _)
  | succ i ih => exact ih.go _
theorem okC_ch {F : Nat → Int × Int} {n : Nat} (h : ∀ i, i < n → okCh (F i)) : OkC (chL F n) := by
  intro c hc
  obtain ⟨j, hj, rfl⟩ := List.mem_map.1 hc
  obtain ⟨⟨h1, h2⟩, h3⟩ := h j (List.mem_range.1 hj)
  exact ⟨by show (F j).1.toNat < 512; omega, by show (F j).2.toNat = 0 ∨ (F j).2.toNat = 1; omega⟩
theorem chL_take (F : Nat → Int × Int) (n k : Nat) (h : k ≤ n) : chL F n = chL F k ++ (chL F n).drop k := by
  have e : (chL F n).take k = chL F k := by
    unfold chL
    rw [← List.map_take, List.take_range, Nat.min_eq_left h]
  rw [← e, List.take_append_drop]
set_option maxRecDepth 100000 in
theorem five_val {l : List Nat} (h : l.length = 5) (hb : ∀ x ∈ l, x < 256) (hv : val l < 4294967296) : ∃ b1 b2 b3 b4, l = [0, b1, b2, b3, b4] ∧ val l = ((b1 * 256 + b2) * 256 + b3) * 256 + b4 := by
  match l, h with
  | [b0, b1, b2, b3, b4], _ =>
    have e : val [b0, b1, b2, b3, b4] = b0 * 4294967296 + (((b1 * 256 + b2) * 256 + b3) * 256 + b4) := by
      simp only [val, List.length_cons, List.length_nil]; omega
    have : b0 = 0 := by omega
    subst this
    exact ⟨b1, b2, b3, b4, rfl, by rw [e, Nat.zero_mul, Nat.zero_add]⟩
set_option maxRecDepth 100000 in
theorem enc_start (F : Nat → Int × Int) (n : Nat) (hok : ∀ i, i < n → okCh (F i)) :
    startOk (encB (RS.start.run (chL F n))) ∧ At (val (bl (encB (RS.start.run (chL F n))))) (bl (encB (RS.start.run (chL F n)))) RS.start (code0 (encB (RS.start.run (chL F n)))) (bl (rest0 (encB (RS.start.run (chL F n))))) := by
  have hs0 : 16777216 ≤ RS.start.width := by show 16777216 ≤ 4294967295; omega
  obtain ⟨hf, hw⟩ := run_fine RS.start_fine hs0 (chL F n)
  obtain ⟨k, hk⟩ := sub_run RS.start_fine hs0 (okC_ch hok)
  obtain ⟨hv, hl⟩ := val_enc _ hf
  generalize RS.start.run (chL F n) = t at *
  obtain ⟨c, hA⟩ := at_of_sub (Y := bl (encB t)) hk (by omega) hl hv
  have ho : RS.start.out.length = 1 := rfl
  have hN : RS.start.N = 0 := by unfold RS.N; rw [show RS.start.out = [0] from rfl]; rfl
  rw [ho] at hA
  have hle := hA.le
  have hn := hA.n
  have hlt := hA.lt
  rw [ho] at hle hn
  rw [hN, Nat.zero_add] at hn
  have hlt2 : c < 4294967295 := hlt
  clear hlt ho hN
  generalize encB t = S at *
  have hb := bl_lt S
  have hsz := bl_len S
  have e1 : bl S = (bl S).take 5 ++ (bl S).drop 5 := (List.take_append_drop 5 _).symm
  have e2 : val (bl S) = val ((bl S).take 5) * 256 ^ ((bl S).length - 5) + val ((bl S).drop 5) := by
    have : val (bl S) = val ((bl S).take 5 ++ (bl S).drop 5) := by rw [← e1]
    rw [this, val_append, List.length_drop]
  have hr : val ((bl S).drop 5) < 256 ^ ((bl S).length - 5) := by
    have := val_lt ((bl S).drop 5) (fun x hx => hb x (List.mem_of_mem_drop hx))
    rwa [List.length_drop] at this
  have hc : val ((bl S).take 5) = c := by
    rw [← hn, e2]
    have hp : 0 < 256 ^ ((bl S).length - 5) := Nat.pow_pos (by omega)
    rw [Nat.add_comm, Nat.add_mul_div_right _ _ hp, Nat.div_eq_of_lt hr]; omega
  obtain ⟨b1, b2, b3, b4, e3, e4⟩ := five_val (l := (bl S).take 5) (by rw [List.length_take]; omega) (fun x hx => hb x (List.mem_of_mem_take hx)) (by omega)
  have hat : ∀ i, i < 5 → bsOf S i = ([0, b1, b2, b3, b4] : List Nat).getD i 0 := fun i hi => by
    have h1 := bsOf_bl (S := S) (i := i) (by omega)
    have h2 : ((bl S).take 5)[i]? = (bl S)[i]? := by rw [List.getElem?_take, if_pos hi]
    rw [e3, h1] at h2
    rw [List.getD_eq_getElem?_getD, h2]; rfl
  have hx : ∀ i, i < 4 → bsOf (S.extract 1 S.size) i = bsOf S (i + 1) := fun i hi => by
    have h1 := bsOf_bl (S := S.extract 1 S.size) (i := i) (by rw [ByteArray.size_extract]; omega)
    have h2 := bsOf_bl (S := S) (i := i + 1) (by omega)
    rw [bl_rest, List.getElem?_drop, Nat.add_comm 1 i, h2] at h1
    exact (Option.some.inj h1).symm
  have hcode : code0 S = c := by
    unfold code0
    have e : pt (bsOf (S.extract 1 S.size)) 0 4 = ((bsOf (S.extract 1 S.size) 0 * 256 + bsOf (S.extract 1 S.size) 1) * 256 + bsOf (S.extract 1 S.size) 2) * 256 + bsOf (S.extract 1 S.size) 3 := by
      simp [pt]
    rw [e, hx 0 (by omega), hx 1 (by omega), hx 2 (by omega), hx 3 (by omega), hat 1 (by omega), hat 2 (by omega), hat 3 (by omega), hat 4 (by omega), ← hc, e4]
    rfl
  have hrest : bl (rest0 S) = (bl S).drop 5 := by unfold rest0; exact bl_rest S 5
  refine ⟨⟨by omega, by rw [hat 0 (by omega)]; rfl⟩, ?_⟩
  rw [hcode, hrest]
  exact hA
/-- he reads what was written, choice by choice -/
theorem dq_at (F : Nat → Int × Int) (n : Nat) (hok : ∀ i, i < n → okCh (F i)) (S : ByteArray) (hS : S = encB (RS.start.run (chL F n))) : ∀ i, i ≤ n →
    (∃ c r, At (val (bl S)) (bl S) (RS.start.run (chL F i)) c r ∧ dq S F i = ⟨(RS.start.run (chL F i)).width, c, (RS.start.run (chL F i)).probs, r⟩) ∧
    (∀ j, j < i → (dq S F j).ok (F j).1.toNat = true ∧ (dq S F j).tell (F j).1.toNat = (F j).2.toNat) := by
  intro i
  induction i with
  | zero =>
    intro _
    refine ⟨⟨code0 S, bl (rest0 S), by rw [hS]; exact (enc_start F n hok).2, rfl⟩, fun j hj => absurd hj (by omega)⟩
  | succ i ih =>
    intro hi
    obtain ⟨⟨c, r, hA, hD⟩, hT⟩ := ih (by omega)
    obtain ⟨hf, hw⟩ := run_fine RS.start_fine (by decide) (chL F i)
    obtain ⟨hft, hwt⟩ := run_fine RS.start_fine (by decide) (chL F n)
    obtain ⟨hv, hl⟩ := val_enc _ hft
    rw [← hS] at hv hl
    have hO := okC_ch hok
    have e1 : RS.start.run (chL F n) = (RS.start.run (chL F (i + 1))).run ((chL F n).drop (i + 1)) := by rw [← run_append, ← chL_take F n (i + 1) hi]
    obtain ⟨hf2, hw2⟩ := run_fine RS.start_fine (by decide) (chL F (i + 1))
    obtain ⟨k, hk⟩ := sub_run hf2 hw2 (l := (chL F n).drop (i + 1)) (fun d hd => hO d (List.mem_of_mem_drop hd))
    rw [← e1, run_succ] at hk
    obtain ⟨⟨h1, h2⟩, h3⟩ := hok i (by omega)
    obtain ⟨c', r', a', t', o', g'⟩ := at_go rfl (bl_lt S) hA hf hw (by omega : (F i).2.toNat = 0 ∨ (F i).2.toNat = 1) hk (by omega) hl hv
    rw [← hD] at t' o' g'
    refine ⟨⟨c', r', by rw [run_succ]; exact a', by rw [run_succ]; exact g'⟩, fun j hj => ?_⟩
    by_cases e : j = i
    · subst e; exact ⟨o', t'⟩
    · exact hT j (by omega)
end Go.Proofs.Ytmckchklebohmac
