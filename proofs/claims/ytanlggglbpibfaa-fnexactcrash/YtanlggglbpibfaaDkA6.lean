/-
  Several texts of this seat as one: CrP, ToI, CrA, CrS, CrI.
-/
import Derived.Test.YtanlggglbpibfaaSfG
import Derived.Test.YtanlggglbpibfaaFsV
import Derived.Test.YtanlggglbpibfaaDkA2
import Derived.Test.YtanlggglbpibfaaIn

/-!   A crash: what is left of a disk; pure. -/
namespace Go.Proofs.Ytanlggglbpibfaa
open Go.RowKit
set_option linter.unusedVariables false
set_option linter.unusedSimpArgs false
/-- places that rise below c -/
def plP (n : Nat) (K : Nat → Int) (c : Nat) : Prop := ∀ i, i < n → 0 ≤ K i ∧ K i < c ∧ (∀ j, j + 1 = i → K j < K i)
/-- an op whose data is torn -/
def torn (t : Int) (o : DqI) : DqI := ⟨o.m, o.a, o.p, o.d.extract 0 (min t.toNat o.d.size)⟩
/-- the op that is done at i -/
def crO (O : List DqI) (n : Nat) (K : Nat → Int) (t : Int) (i : Nat) : DqI := if i + 1 = n then torn t (dqF O (K i).toNat) else dqF O (K i).toNat
/-- what an op makes, or nothing -/
def doX (L : List FlI) (o : DqI) : List FlI := (doF L o).getD L
def crL (S : List FlI) (O : List DqI) (n : Nat) (K : Nat → Int) (t : Int) : Nat → List FlI
  | 0 => S
  | i + 1 => doX (crL S O n K t i) (crO O n K t i)
def preD (O : List DqI) : Nat → Nat
  | 0 => 0
  | i + 1 => preD O i + (dqF O i).d.size
theorem preD_mono (O : List DqI) {a b : Nat} (h : a ≤ b) : preD O a ≤ preD O b := by
  induction b with
  | zero => obtain rfl : a = 0 := by omega
            exact Nat.le_refl _
  | succ b ih =>
    rcases Nat.lt_or_ge b a with h1 | h1
    · obtain rfl : a = b + 1 := by omega
      exact Nat.le_refl _
    · exact Nat.le_trans (ih h1) (Nat.le_add_right _ _)
theorem extract_size (d : ByteArray) (n : Nat) (h : n ≤ d.size) : (d.extract 0 n).size = n := by
  rw [ByteArray.size_extract]; omega
theorem torn_size (t : Int) (o : DqI) : (torn t o).d.size ≤ o.d.size := by
  show (o.d.extract 0 _).size ≤ _
  rw [extract_size _ _ (Nat.min_le_right _ _)]; exact Nat.min_le_right _ _
theorem extract_nil (n : Nat) : (⟨#[]⟩ : ByteArray).extract 0 n = ⟨#[]⟩ := by
  have h : ((⟨#[]⟩ : ByteArray).extract 0 n).size = 0 := by
    rw [ByteArray.size_extract]
    show min n 0 - 0 = 0
    omega
  have h2 : ∀ b : ByteArray, b.size = 0 → b = ⟨#[]⟩ := fun b hb => by
    apply ByteArray.ext
    exact Array.eq_empty_of_size_eq_zero hb
  exact h2 _ h
theorem torn_op {t : Int} {o : DqI} (h : opP o) : opP (torn t o) := by
  obtain ⟨h1, h2, h3⟩ := h
  refine ⟨h1, h2, ?_⟩
  show if o.m = 2 then nmOk o.p ∧ o.d.extract 0 _ = ⟨#[]⟩ else o.p = ⟨#[]⟩ ∧ (o.m = 1 ∨ o.d.extract 0 _ = ⟨#[]⟩)
  split
  · rename_i e
    rw [if_pos e] at h3
    exact ⟨h3.1, by rw [h3.2, extract_nil]⟩
  · rename_i e
    rw [if_neg e] at h3
    exact ⟨h3.1, h3.2.imp id fun h => by rw [h, extract_nil]⟩
/-- torn where it is an append and longer: else as it is -/
theorem torn_id {t : Int} {o : DqI} (h : opP o) (h2 : ¬ (o.m = 1 ∧ t < (o.d.size : Int))) (ht : 0 ≤ t) : torn t o = o := by
  have e0 : (⟨#[]⟩ : ByteArray).size = 0 := rfl
  have key : o.d.extract 0 (min t.toNat o.d.size) = o.d := by
    by_cases hm : o.m = 1
    · have h3 : (o.d.size : Int) ≤ t := by
        rcases Int.lt_or_le t (o.d.size : Int) with h4 | h4
        · exact absurd ⟨hm, h4⟩ h2
        · exact h4
      have : min t.toNat o.d.size = o.d.size := Nat.min_eq_right (by omega)
      rw [this]
      exact ByteArray.extract_zero_size
    · obtain ⟨_, _, h3⟩ := h
      have hd : o.d = ⟨#[]⟩ := by
        split at h3
        · exact h3.2
        · exact h3.2.resolve_left hm
      rw [hd, extract_nil]
  show (⟨o.m, o.a, o.p, o.d.extract 0 (min t.toNat o.d.size)⟩ : DqI) = o
  rw [key]
theorem torn_cut {t : Int} {o : DqI} (h : t < (o.d.size : Int)) (ht : 0 ≤ t) : torn t o = ⟨o.m, o.a, o.p, o.d.extract 0 t.toNat⟩ := by
  show (⟨o.m, o.a, o.p, o.d.extract 0 (min t.toNat o.d.size)⟩ : DqI) = _
  rw [Nat.min_eq_left (by omega)]
theorem doX_sum {L : List FlI} {o : DqI} (hr : riseF L) : sumD (doX L o) ≤ sumD L + o.d.size ∧ (doX L o).length ≤ L.length + 1 := by
  unfold doX
  cases hd : doF L o with
  | none => exact ⟨Nat.le_add_right _ _, Nat.le_succ _⟩
  | some M =>
    show sumD M ≤ _ ∧ M.length ≤ _
    unfold doF at hd
    split at hd
    · cases hd
      have h1 := putF_size hr o.a ((fdF L o.a).getD ⟨#[]⟩ ++ o.d)
      rw [ByteArray.size_append] at h1
      refine ⟨by omega, ?_⟩
      rw [h1.1]; split <;> omega
    · split at hd
      · cases hd
      · rename_i x hx
        cases hd
        have h1 := cutF_size hr o.a
        rw [hx] at h1
        simp only [Option.getD_some] at h1
        have hl : (cutF L o.a).length ≤ L.length := by rw [h1.1]; split <;> omega
        split
        · have h2 := putF_size (riseF_cut hr o.a) o.p x
          refine ⟨by omega, ?_⟩
          rw [h2.1]; split <;> omega
        · exact ⟨by omega, by omega⟩
theorem doX_rise {L : List FlI} {o : DqI} (hr : riseF L) : riseF (doX L o) := by
  unfold doX
  cases hd : doF L o with
  | none => exact hr
  | some M => exact doF_rise hr hd
theorem doX_nm {L : List FlI} {o : DqI} (h : ∀ f ∈ L, nmOk f.a) (ho : opP o) : ∀ f ∈ doX L o, nmOk f.a := by
  unfold doX
  cases hd : doF L o with
  | none => exact h
  | some M => exact doF_nm h ho hd
/-- the next place that is free -/
def nxt (K : Nat → Int) : Nat → Nat
  | 0 => 0
  | i + 1 => (K i).toNat + 1
theorem nxt_le {n c i : Nat} {K : Nat → Int} (h : plP n K c) (hi : i < n) : nxt K i ≤ (K i).toNat ∧ (K i).toNat < c := by
  have h1 := h i hi
  refine ⟨?_, by omega⟩
  cases i with
  | zero => exact Nat.zero_le _
  | succ j =>
    have h2 := h1.2.2 j rfl
    have h3 := h j (by omega)
    show (K j).toNat + 1 ≤ _
    omega
theorem nxt_ge {n c : Nat} {K : Nat → Int} (h : plP n K c) : ∀ i, i ≤ n → i ≤ nxt K i
  | 0, _ => Nat.zero_le _
  | i + 1, hi => by
    have h1 := nxt_ge h i (by omega)
    have h2 := nxt_le h (i := i) (by omega)
    show i + 1 ≤ (K i).toNat + 1
    omega
theorem nxt_c {n c : Nat} {K : Nat → Int} (h : plP n K c) : ∀ i, i ≤ n → nxt K i ≤ c
  | 0, _ => Nat.zero_le _
  | i + 1, hi => by
    have h2 := nxt_le h (i := i) (by omega)
    show (K i).toNat + 1 ≤ c
    omega
theorem plP_few {n c : Nat} {K : Nat → Int} (h : plP n K c) : n ≤ c := Nat.le_trans (nxt_ge h n (Nat.le_refl _)) (nxt_c h n (Nat.le_refl _))
theorem crO_op {O : List DqI} {n : Nat} {K : Nat → Int} {t : Int} (hO : ∀ o ∈ O, opP o) (hK : plP n K O.length) {i : Nat} (hi : i < n) : opP (crO O n K t i) := by
  have h1 : opP (dqF O (K i).toNat) := by
    rw [dqF_at (nxt_le hK hi).2]
    exact hO _ (List.getElem_mem _)
  unfold crO
  split
  · exact torn_op h1
  · exact h1
theorem crO_size (O : List DqI) (n : Nat) (K : Nat → Int) (t : Int) (i : Nat) : (crO O n K t i).d.size ≤ (dqF O (K i).toNat).d.size := by
  unfold crO
  split
  · exact torn_size _ _
  · exact Nat.le_refl _
/-- what holds of the files at i -/
theorem crL_ok {S : List FlI} {O : List DqI} {n : Nat} {K : Nat → Int} {t : Int} (hS : filesP S) (hO : ∀ o ∈ O, opP o) (hK : plP n K O.length) : ∀ i, i ≤ n → riseF (crL S O n K t i) ∧ (∀ f ∈ crL S O n K t i, nmOk f.a) ∧ (crL S O n K t i).length ≤ 60 + i ∧ sumD (crL S O n K t i) ≤ 200000 + preD O (nxt K i)
  | 0, _ => ⟨hS.rise, hS.nm, hS.len, Nat.le_trans hS.sum (Nat.le_add_right _ _)⟩
  | i + 1, hi => by
    obtain ⟨h1, h2, h3, h4⟩ := crL_ok hS hO hK i (by omega)
    have h5 := doX_sum (o := crO O n K t i) h1
    have h6 := crO_size O n K t i
    have h7 := preD_mono O (nxt_le hK (i := i) (by omega)).1
    refine ⟨doX_rise h1, doX_nm h2 (crO_op hO hK (by omega)), ?_, ?_⟩
    · show (doX _ _).length ≤ _
      omega
    · show sumD (doX _ _) ≤ 200000 + (preD O (K i).toNat + (dqF O (K i).toNat).d.size)
      omega
/-- what a crash leaves -/
noncomputable def crA (L S : List FlI) (O : List DqI) (n : Nat) (K : Nat → Int) (t : Int) : List FlI × Bool := open Classical in if diskP L S O ∧ plP n K O.length ∧ 0 ≤ t ∧ (crL S O n K t n).length ≤ 60 ∧ sumD (crL S O n K t n) ≤ 200000 then (crL S O n K t n, true) else ([], false)
theorem crA_yes {L S : List FlI} {O : List DqI} {n : Nat} {K : Nat → Int} {t : Int} (h : diskP L S O ∧ plP n K O.length ∧ 0 ≤ t ∧ (crL S O n K t n).length ≤ 60 ∧ sumD (crL S O n K t n) ≤ 200000) : crA L S O n K t = (crL S O n K t n, true) := by unfold crA; rw [if_pos h]
theorem crA_no {L S : List FlI} {O : List DqI} {n : Nat} {K : Nat → Int} {t : Int} (h : ¬ (diskP L S O ∧ plP n K O.length ∧ 0 ≤ t ∧ (crL S O n K t n).length ≤ 60 ∧ sumD (crL S O n K t n) ≤ 200000)) : crA L S O n K t = ([], false) := by unfold crA; rw [if_neg h]
theorem crA_few (L S : List FlI) (O : List DqI) (n : Nat) (K : Nat → Int) (t : Int) : (crA L S O n K t).1.length ≤ 60 := by
  by_cases h : diskP L S O ∧ plP n K O.length ∧ 0 ≤ t ∧ (crL S O n K t n).length ≤ 60 ∧ sumD (crL S O n K t n) ≤ 200000
  · rw [crA_yes h]; exact h.2.2.2.1
  · rw [crA_no h]; simp
theorem runs_ops {L S : List FlI} {O : List DqI} (h : runF S O = some L) : ∀ o ∈ O, opP o := by
  induction O generalizing S with
  | nil => intro o ho; cases ho
  | cons x O ih =>
    unfold runF at h
    split at h
    · cases h
    · rename_i M e
      intro o ho
      rcases List.mem_cons.1 ho with rfl | ho
      · unfold stepF at e
        split at e
        · assumption
        · cases e
      · exact ih h o ho
end Go.Proofs.Ytanlggglbpibfaa

/-!   A list of numbers as the law hands it over: copied, compared, marked. -/
namespace Go.Proofs.Ytanlggglbpibfaa
open Go.RowKit
set_option linter.unusedVariables false
set_option linter.unusedSimpArgs false
/-- a list of numbers that came in -/
structure InI (w : World) (v : Value) (n : Nat) (K : Nat → Int) : Prop where
  form : ∃ a c, v = .slice a n c ∧ (0 < n → ∃ g off, a = some ⟨g, off, none⟩ ∧ g < w.heap.size ∧ ∀ i, i < n → w.cell? ⟨g, off + i, none⟩ = some (.int .i64 (K i)))
theorem InI.below {w w' : World} {v : Value} {n : Nat} {K : Nat → Int} (h : InI w v n K) (hb : Below w.heap.size w w') : InI w' v n K := by
  obtain ⟨a, c, rfl, h1⟩ := h.form
  exact ⟨a, c, rfl, fun h0 => by
    obtain ⟨g, off, rfl, h2, h3⟩ := h1 h0
    exact ⟨g, off, rfl, Nat.lt_of_lt_of_le h2 hb.size, fun i hi => (hb.cell (p := ⟨g, off + i, none⟩) h2).trans (h3 i hi)⟩⟩
/-- a list of numbers in a block of its own -/
def RwI (w : World) (g n : Nat) (K : Nat → Int) : Prop := ∃ C, w.heap[g]? = some (.cells C 2 (0, 0)) ∧ C.size = n ∧ ∀ j, j < n → C[j]? = some (.int .i64 (K j))
theorem RwI.keep {w w' : World} {g n : Nat} {K : Nat → Int} (h : RwI w g n K) (hb : w'.heap[g]? = w.heap[g]?) : RwI w' g n K := by
  obtain ⟨C, h1, h2⟩ := h
  exact ⟨C, hb.trans h1, h2⟩
theorem RwI.lt {w : World} {g n : Nat} {K : Nat → Int} (h : RwI w g n K) : g < w.heap.size := by
  obtain ⟨C, h1, h2⟩ := h
  exact (Array.getElem?_eq_some_iff.1 h1).1
theorem RwI.below {w w' : World} {g n : Nat} {K : Nat → Int} (h : RwI w g n K) (hb : Below w.heap.size w w') : RwI w' g n K := h.keep (hb.block _ h.lt)
theorem RwI.cell {w : World} {g n : Nat} {K : Nat → Int} (h : RwI w g n K) {j : Nat} (hj : j < n) : w.cell? ⟨g, j, none⟩ = some (.int .i64 (K j)) := by
  obtain ⟨C, h1, h2, h3⟩ := h
  exact (cell_of_row _ _ j _ _ _ h1).trans (h3 j hj)
theorem Try.infI64 : (Try.prog.info? 2).map (fun i => (i.zero, i.size, i.bytes)) = some (some (.int .i64 0), 1, 8) := by kernel_rfl
set_option maxRecDepth 100000 in
set_option maxHeartbeats 4000000 in
theorem toI_own (g off c n : Nat) (K : Nat → Int) (w : World) (hn : n ≤ 1048576) (hg : g < w.heap.size)
    (h0 : ∀ i, i < n → w.cell? ⟨g, off + i, none⟩ = some (.int .i64 (K i))) :
    Calls Try.prog 35 #[.slice (some ⟨g, off, none⟩) n c] w fun e w' => (e = .returned (.slice (some ⟨w.heap.size, 0, none⟩) n n) ∧ RwI w' w.heap.size n K) ∧ Below w.heap.size w w' := by
  have hnI : (n : Int) ≤ 1048576 := by omega
  have HC : Hid _ := h0
  clear h0
  obtain ⟨i0, hi0, hz0, hz1, hz2⟩ := info_parts Try.infI64
  have hmk := run_make (P := Try.prog) w 30 2 i0 (.int .i64 0) Try.underlying30 hi0 hz0 .i64 .i64 (n : Int) (n : Int) (by omega) (by omega) (by rw [hz2]; omega) (by omega)
  rw [hz1, Int.toNat_natCast] at hmk
  have HZS : Hid ((madeCells (Value.int .i64 0).cells (n * 1)).size = n) := by
    show (madeCells _ _).size = _
    rw [size_madeCells]; omega
  generalize madeCells (Value.int .i64 0).cells (n * 1) = Z at hmk HZS
  have HU : Hid (Below w.heap.size w (w.alloc (.cells Z 2)) ∧ (w.alloc (.cells Z 2)).heap[w.heap.size]? = some (.cells Z 2 (0, 0))) := ⟨(Below.refl _ _).alloc (Nat.le_refl _) _, heap_alloc_new w _⟩
  go_enter Try.func35, Try.ntmps35
  go_wp2_with fail
  go_loopw [4] (fun v wr => ∃ (i : Nat) (C : Array Value), i ≤ n ∧ v = .int .i64 (i : Int) ∧ C.size = n ∧ Hid (Below w.heap.size w wr ∧ wr.heap[w.heap.size]? = some (.cells C 2 (0, 0))) ∧ Hid (∀ j, j < i → C[j]? = some (.int .i64 (K j)))) (fun v _ => n - (intFl v).toNat)
  case atStart => exact ⟨0, Z, by omega, rfl, HZS.out, HU, fun j hj => absurd hj (by omega)⟩
  case round =>
    clear HU
    obtain ⟨i, C, hi, rfl, hcs, HB, HCC⟩ := hrel
    have HCS : Hid (C.size = n) := hcs
    clear hcs
    by_cases hlt : i < n
    · have hltI : (i : Int) < (n : Int) := by omega
      have x0 := HC.out i hlt
      rw [← HB.out.1.cell (p := ⟨g, off + i, none⟩) hg] at x0
      have hsz := HCS.out
      have hrow := HB.out.2
      have y0 : wr.cell? ⟨w.heap.size, i, none⟩ = some C[i] := (cell_of_row wr _ i _ _ _ hrow).trans (Array.getElem?_eq_getElem (by omega))
      have z0 := frozen_of_row wr _ i _ _ hrow
      have HN : Hid (Below w.heap.size w (wr.setCell ⟨w.heap.size, i, none⟩ (.int .i64 (K i))) ∧ (wr.setCell ⟨w.heap.size, i, none⟩ (.int .i64 (K i))).heap[w.heap.size]? = some (.cells (C.setIfInBounds i (.int .i64 (K i))) 2 (0, 0))) := ⟨HB.out.1.setCell (Nat.le_refl _) _, heap_setCell_same _ _ _ _ _ _ hrow⟩
      have HN2 : Hid (∀ j, j < i + 1 → (C.setIfInBounds i (.int .i64 (K i)))[j]? = some (.int .i64 (K j))) := fun j hj => by
        have h4 : j < i ∨ j = i := by omega
        rcases h4 with h4 | rfl
        · rw [Array.getElem?_setIfInBounds_ne (by omega)]
          exact HCC.out j h4
        · rw [Array.getElem?_setIfInBounds_self_of_lt (by omega)]
      have HN3 : Hid ((C.setIfInBounds i (.int .i64 (K i))).size = n) := by show _ = _; simp; exact HCS.out
      generalize C[i] = u0 at y0
      generalize K i = ki at x0 HN HN2 HN3
      clear hsz hrow HB
      go_wp2_with fail
      go_roundw
      case rel => exact ⟨i + 1, _, by omega, by go_num, HN3.out, HN, HN2⟩
      case measure => simp [intFl]; omega
    · obtain rfl : i = n := by omega
      go_wp2_with fail
      go_ret
      exact ⟨⟨rfl, C, HB.out.2, HCS.out, HCC.out⟩, HB.out.1⟩
set_option maxRecDepth 100000 in
theorem toI_nil (a : Option Addr) (c : Nat) (K : Nat → Int) (w : World) :
    Calls Try.prog 35 #[.slice a 0 c] w fun e w' => (e = .returned (.slice (some ⟨w.heap.size, 0, none⟩) 0 0) ∧ RwI w' w.heap.size 0 K) ∧ Below w.heap.size w w' := by
  obtain ⟨i0, hi0, hz0, hz1, hz2⟩ := info_parts Try.infI64
  have hmk := run_make (P := Try.prog) w 30 2 i0 (.int .i64 0) Try.underlying30 hi0 hz0 .i64 .i64 (0 : Int) (0 : Int) (by omega) (by omega) (by rw [hz2]; omega) (by omega)
  have HB : Hid (Below w.heap.size w (w.alloc (.cells (madeCells (Value.int .i64 0).cells ((0 : Int).toNat * i0.size)) 2))) := (Below.refl _ _).alloc (Nat.le_refl _) _
  have HX : Hid ((w.alloc (.cells (madeCells (Value.int .i64 0).cells ((0 : Int).toNat * i0.size)) 2)).heap[w.heap.size]? = some (.cells (madeCells (Value.int .i64 0).cells ((0 : Int).toNat * i0.size)) 2 (0, 0))) := heap_alloc_new w _
  have HZ : Hid ((madeCells (Value.int .i64 0).cells ((0 : Int).toNat * i0.size)).size = 0) := by show _ = _; rw [size_madeCells]; simp
  generalize madeCells (Value.int .i64 0).cells ((0 : Int).toNat * i0.size) = Z at hmk HB HX HZ
  go_enter Try.func35, Try.ntmps35
  go_wp2_with fail
  refine wp_loop_rounds 1 ?_
  rw [rounds_succ]
  go_wp2_with fail
  go_ret
  exact ⟨⟨rfl, Z, HX.out, HZ.out, fun j hj => absurd hj (by omega)⟩, HB.out⟩
theorem toI_any (v : Value) (n : Nat) (K : Nat → Int) (w : World) (hn : n ≤ 1048576) (h : InI w v n K) :
    Calls Try.prog 35 #[v] w fun e w' => (e = .returned (.slice (some ⟨w.heap.size, 0, none⟩) n n) ∧ RwI w' w.heap.size n K) ∧ Below w.heap.size w w' := by
  obtain ⟨a, c, rfl, h1⟩ := h.form
  by_cases h0 : 0 < n
  · obtain ⟨g, off, rfl, h2, h3⟩ := h1 h0
    exact toI_own g off c n K w hn h2 h3
  · obtain rfl : n = 0 := by omega
    exact toI_nil a c K w
set_option maxRecDepth 100000 in
set_option maxHeartbeats 1000000 in
theorem eqIs_any (g h c d n : Nat) (K : Nat → Int) (w : World) (hn : n ≤ 1048576) (hg : RwI w g n K) (hh : RwI w h n K) :
    Calls Try.prog 36 #[.slice (some ⟨g, 0, none⟩) n c, .slice (some ⟨h, 0, none⟩) n d] w fun e w' => e = .returned (.bool true) ∧ Below w.heap.size w w' := by
  have HG : Hid (∀ j, j < n → w.cell? ⟨g, j, none⟩ = some (.int .i64 (K j)) ∧ w.cell? ⟨h, j, none⟩ = some (.int .i64 (K j))) := fun j hj => ⟨hg.cell hj, hh.cell hj⟩
  clear hg hh
  go_enter Try.func36, Try.ntmps36
  go_wp2_with fail
  go_loopw [5] (fun v wr => ∃ i : Nat, i ≤ n ∧ v = .int .i64 (i : Int) ∧ Below w.heap.size w wr ∧ wr.heap = w.heap) (fun v _ => n - (intFl v).toNat)
  case atStart => exact ⟨0, by omega, rfl, Below.refl _ _, rfl⟩
  case round =>
    obtain ⟨i, hi, rfl, hb, hp⟩ := hrel
    by_cases hlt : i < n
    · have hltI : (i : Int) < (n : Int) := by omega
      obtain ⟨x0, x1⟩ := HG.out i hlt
      have e : ∀ a, wr.cell? a = w.cell? a := fun a => by simp [World.cell?, hp]
      rw [← e] at x0 x1
      generalize K i = x at x0 x1
      have HB : Hid (Below w.heap.size w wr ∧ wr.heap = w.heap) := ⟨hb, hp⟩
      clear e hb hp
      go_wp2_with fail
      go_region
      go_wp2_with fail
      go_roundw
      case rel => exact ⟨i + 1, by omega, by go_num, by first | exact HB.out.1.drew | exact HB.out.1, by first | exact HB.out.2 | trivial⟩
      case measure => simp [intFl]; omega
    · obtain rfl : i = n := by omega
      go_wp2_with fail
      go_ret
      exact ⟨rfl, hb⟩
set_option maxRecDepth 100000 in
set_option maxHeartbeats 1000000 in
theorem markI_grown (g c n k : Nat) (cur : Array Value) (w : World) (hn : n ≤ 1048576) (hk : k ≤ 10000000) (hg : w.heap[g]? = some (.cells cur 2 (0, 0))) (hcs : n ≤ cur.size) :
    Calls Try.prog 37 #[.slice (some ⟨g, 0, none⟩) n c, .int .i64 (k : Int)] w fun e w' => e = .returned (.int .i64 ((k + n : Nat) : Int)) ∧ w.grownBy w' (some g) := by
  have HST : Hid (w.grownBy w (some g) ∧ w.heap[g]? = some (.cells cur 2 (0, 0)) ∧ n ≤ cur.size) := ⟨World.grownBy.refl _ _, hg, hcs⟩
  clear hg hcs
  go_enter Try.func37, Try.ntmps37
  go_wp2_with fail
  go_loopw [1, 5] (fun x v wr => ∃ (i : Nat) (C : Array Value), i ≤ n ∧ x = .int .i64 ((k + i : Nat) : Int) ∧ v = .int .i64 (i : Int) ∧ Hid (w.grownBy wr (some g) ∧ wr.heap[g]? = some (.cells C 2 (0, 0)) ∧ n ≤ C.size)) (fun _ v _ => n - (intFl v).toNat)
  case atStart => exact ⟨0, cur, by omega, rfl, rfl, HST⟩
  case round =>
    obtain ⟨i, C, hi, rfl, rfl, HW⟩ := hrel
    by_cases hlt : i < n
    · have hltI : (i : Int) < (n : Int) := by omega
      have hsz := HW.out.2.2
      have hrow := HW.out.2.1
      have x0 : wr.cell? ⟨g, i, none⟩ = some C[i] := (cell_of_row wr _ i _ _ _ hrow).trans (Array.getElem?_eq_getElem (by omega))
      have z0 := frozen_of_row wr _ i _ _ hrow
      obtain ⟨k0, hk0⟩ : ∃ k0, k0 = k + i := ⟨_, rfl⟩
      have HK := hidF hk0
      have hk0l : k0 ≤ 12000000 := by omega
      rw [← hk0]
      have HN : Hid (w.grownBy (wr.setCell ⟨g, i, none⟩ (.int .i64 (k0 : Int))) (some g) ∧
          (wr.setCell ⟨g, i, none⟩ (.int .i64 (k0 : Int))).heap[g]? = some (.cells (C.setIfInBounds i (.int .i64 (k0 : Int))) 2 (0, 0)) ∧
          n ≤ (C.setIfInBounds i (.int .i64 (k0 : Int))).size) :=
        ⟨put_grown HW.out.1 (Below.refl _ _) _ _, heap_setCell_same _ _ _ _ _ _ hrow, by simp; omega⟩
      generalize C[i] = y0 at x0
      clear hsz hrow hk0 HW
      go_wp2_with fail
      go_roundw
      case rel => exact ⟨i + 1, _, by omega, by have := HK.out; show Value.int .i64 _ = Value.int .i64 _; congr 1; omega, by go_num, HN⟩
      case measure => simp [intFl]; omega
    · obtain rfl : i = n := by omega
      go_wp2_with fail
      go_ret
      exact ⟨rfl, HW.out.1⟩
end Go.Proofs.Ytanlggglbpibfaa

/-!   Whether numbers are places that rise: the code's. -/
namespace Go.Proofs.Ytanlggglbpibfaa
open Go.RowKit
set_option linter.unusedVariables false
set_option linter.unusedSimpArgs false
noncomputable def plB (n : Nat) (K : Nat → Int) (c : Nat) : Bool := open Classical in decide (plP n K c)
theorem plB_yes {n c : Nat} {K : Nat → Int} (h : plP n K c) : plB n K c = true := by unfold plB; exact (open Classical in decide_eq_true h)
theorem plB_no {n c : Nat} {K : Nat → Int} (h : ¬ plP n K c) : plB n K c = false := by unfold plB; exact (open Classical in decide_eq_false h)
/-- the place ahead -/
def ahP (K : Nat → Int) : Nat → Int
  | 0 => -1
  | i + 1 => K i
theorem plP_step {i c : Nat} {K : Nat → Int} (h : plP i K c) (h1 : ahP K i < K i) (h2 : K i < c) : plP (i + 1) K c := fun j hj => by
  by_cases e : j < i
  · exact h j e
  · obtain rfl : j = i := by omega
    cases j with
    | zero => exact ⟨by have : (-1 : Int) < K 0 := h1; omega, h2, fun j hj => absurd hj (by omega)⟩
    | succ j =>
      have h3 := h j (by omega)
      have h4 : K j < K (j + 1) := h1
      exact ⟨by omega, h2, fun k hk => by obtain rfl : k = j := by omega
                                          exact h4⟩
theorem plP_not {n i c : Nat} {K : Nat → Int} (hi : i < n) (h : K i ≤ ahP K i ∨ (c : Int) ≤ K i) : ¬ plP n K c := fun k => by
  have h1 := k i hi
  rcases h with h | h
  · cases i with
    | zero => have : K 0 ≤ -1 := h; omega
    | succ i => have h2 := h1.2.2 i rfl; have : K (i + 1) ≤ K i := h; omega
  · omega
set_option maxRecDepth 100000 in
set_option maxHeartbeats 1000000 in
theorem places15_any (g c n cn : Nat) (K : Nat → Int) (w : World) (hn : n ≤ 1048576) (h : RwI w g n K) :
    Calls Try.prog 46 #[.slice (some ⟨g, 0, none⟩) n c, .int .i64 (cn : Int)] w fun e w' => e = .returned (.bool (plB n K cn)) ∧ Below w.heap.size w w' := by
  have HC : Hid (∀ w', Below w.heap.size w w' → ∀ j, j < n → w'.cell? ⟨g, j, none⟩ = some (.int .i64 (K j))) := fun w' hb j hj => (h.below hb).cell hj
  clear h
  go_enter Try.func46, Try.ntmps46
  go_wp2_with fail
  have HP0 : Hid (plP 0 K cn) := fun i hi => absurd hi (by omega)
  go_loopw [5, 10] (fun x y wr => ∃ i : Nat, i ≤ n ∧ x = .int .i64 (ahP K i) ∧ y = .int .i64 (i : Int) ∧ Hid (plP i K cn) ∧ Hid (Below w.heap.size w wr)) (fun _ y _ => n - (intFl y).toNat)
  case atStart => exact ⟨0, by omega, rfl, rfl, HP0, Below.refl _ _⟩
  case round =>
    clear HP0
    obtain ⟨i, hi, rfl, rfl, HP, HB⟩ := hrel
    by_cases hlt : i < n
    · have hltI : (i : Int) < (n : Int) := by omega
      have x0 := HC.out _ HB.out i hlt
      obtain ⟨ki, hki⟩ : ∃ ki, ki = K i := ⟨_, rfl⟩
      obtain ⟨ai, hai⟩ : ∃ ai, ai = ahP K i := ⟨_, rfl⟩
      rw [← hki] at x0
      rw [← hai]
      have HN : Hid (¬ (ki ≤ ai ∨ (cn : Int) ≤ ki) → plP (i + 1) K cn ∧ ahP K (i + 1) = ki) := fun hh => ⟨plP_step HP.out (by omega) (by omega), hki.symm⟩
      have HX : Hid ((ki ≤ ai ∨ (cn : Int) ≤ ki) → ¬ plP n K cn) := fun hh => plP_not hlt (by rw [← hki, ← hai]; exact hh)
      have HI := hidF hlt
      clear hki hai HP
      by_cases h1 : ki ≤ ai
      · have HF := hidF (plB_no (HX.out (Or.inl h1)))
        clear HN HX
        go_wp2_with fail
        go_ret
        exact ⟨by rw [HF.out]; rfl, HB.out⟩
      · by_cases h2 : (cn : Int) ≤ ki
        · have HF := hidF (plB_no (HX.out (Or.inr h2)))
          clear HN HX
          go_wp2_with fail
          go_ret
          exact ⟨by rw [HF.out]; rfl, HB.out⟩
        · obtain ⟨h3, h4⟩ := HN.out (fun h => h.elim h1 h2)
          have HP3 := hidF h3
          have HA4 := hidF h4
          clear HN HX h3 h4
          go_wp2_with fail
          go_roundw
          case rel => exact ⟨i + 1, by have := HI.out; omega, by rw [HA4.out], by go_num, HP3, HB⟩
          case measure => simp [intFl]; have := HI.out; omega
    · obtain rfl : i = n := by omega
      have HF := hidF (plB_yes HP.out)
      go_wp2_with fail
      go_ret
      exact ⟨by rw [HF.out]; rfl, HB.out⟩
end Go.Proofs.Ytanlggglbpibfaa

/-!   Crash: the specification's. -/
namespace Go.Proofs.Ytanlggglbpibfaa
open Go.RowKit
set_option linter.unusedVariables false
set_option linter.unusedSimpArgs false
/-- what a crash leaves, as an answer -/
def CrV (A : List FlI × Bool) (e : Ending) (w' : World) : Prop := ∃ a b c, e = .returned (.tuple #[.agg #[a, b, c], .bool A.2]) ∧ FlV w' a A.1 ∧ FlV w' b A.1 ∧ DqV w' c []
set_option maxRecDepth 100000 in
set_option maxHeartbeats 3000000 in
theorem scrash15_any (vL vS vO : Value) (L S : List FlI) (O : List DqI) (g c n : Nat) (K : Nat → Int) (t : Int) (w : World) (hn : n ≤ 1048576) (hL : FlLe L) (hS : FlLe S) (hO : DqLe O) (hT : preD O O.length ≤ 1100000) (hg : RwI w g n K) (h1 : FlV w vL L) (h2 : FlV w vS S) (h3 : DqV w vO O) :
    Calls Try.prog 34 #[.agg #[vL, vS, vO], .slice (some ⟨g, 0, none⟩) n c, .int .i64 t] w fun e w' => CrV (crA L S O n K t) e w' ∧ Below w.heap.size w w' := by
  have HDK : Hid (∀ w', Below w.heap.size w w' → Calls Try.prog 15 #[.agg #[vL, vS, vO]] w' fun e w'' => e = .returned (.bool (dkB L S O)) ∧ Below w'.heap.size w' w'') := fun w' hb => sdisk_any vL vS vO L S O w' hL hS hO (h1.below hb) (h2.below hb) (h3.below hb)
  have HDO : Hid (∀ (M : List FlI) u (m : Int) (a p d : ByteArray) w', FlLe M → riseF M → (∀ f ∈ M, f.d.size + d.size ≤ 1500000) → d.size ≤ 1500000 → FlV w' u M → Calls Try.prog 43 #[u, .agg #[.int .i64 m, .string a, .string p, .string d]] w' (DoAns w' M ⟨m, a, p, d⟩)) := fun M u m a p d w' hM hr hs hd hu => sdo15_any u M m a p d w' hM hr hs hd hu
  have HFM : Hid (∀ (M : List FlI) u w', FlLe M → FlV w' u M → Calls Try.prog 42 #[u] w' fun e w'' => e = .returned (.bool (flB M)) ∧ Below w'.heap.size w' w'') := fun M u w' hM hu => sfiles_any u M w' hM hu.arg
  have HV0 : Hid (∀ w', Below w.heap.size w w' → FlV w' vL L ∧ FlV w' vS S ∧ DqV w' vO O) := fun w' hb => ⟨h1.below hb, h2.below hb, h3.below hb⟩
  obtain ⟨al, cl, rfl⟩ := h1.slice
  obtain ⟨a2, cs, rfl⟩ := h2.slice
  obtain ⟨ao, co, rfl⟩ := h3.slice
  have HKC : Hid (∀ w', Below w.heap.size w w' → ∀ i, i < n → w'.cell? ⟨g, i, none⟩ = some (.int .i64 (K i))) := fun w' hb i hi => (hg.below hb).cell hi
  have HOR : Hid (∀ i w', i < O.length → Below w.heap.size w w' → ∃ g c, (Value.slice ao O.length co) = .slice (some ⟨g, 0, none⟩) O.length c ∧ DqRow w' g O.length (dqF O)) := fun i w' hi hb => by
    rcases h3 with ⟨_, rfl⟩ | ⟨g, c, e, hr⟩
    · simp at hi
    · exact ⟨g, c, e, hr.below hb hr.lt⟩
  have HOZ := hidF hO
  have HTT := hidF hT
  have HSL := hidF hS
  have HX1 : Hid (((w.alloc (.cells #[.slice al L.length cl, .slice a2 S.length cs, .slice ao O.length co] 27)).alloc (.cells #[.slice none 0 0, .slice none 0 0, .slice none 0 0] 27)).heap[w.heap.size]? = some (.cells #[.slice al L.length cl, .slice a2 S.length cs, .slice ao O.length co] 27 (0, 0)) ∧ ((w.alloc (.cells #[.slice al L.length cl, .slice a2 S.length cs, .slice ao O.length co] 27)).alloc (.cells #[.slice none 0 0, .slice none 0 0, .slice none 0 0] 27)).heap[w.heap.size + 1]? = some (.cells #[.slice none 0 0, .slice none 0 0, .slice none 0 0] 27 (0, 0))) := by
    refine ⟨?_, ?_⟩
    · rw [Below.heap_alloc _ _ _ (by simp), heap_alloc_new]
    · have := heap_alloc_new (w.alloc (.cells #[.slice al L.length cl, .slice a2 S.length cs, .slice ao O.length co] 27)) (.cells #[.slice none 0 0, .slice none 0 0, .slice none 0 0] 27)
      rw [World.size_alloc] at this
      exact this
  have HB1 : Hid (Below w.heap.size w ((w.alloc (.cells #[.slice al L.length cl, .slice a2 S.length cs, .slice ao O.length co] 27)).alloc (.cells #[.slice none 0 0, .slice none 0 0, .slice none 0 0] 27))) := ((Below.refl _ _).alloc (Nat.le_refl _) _).alloc (by simp) _
  have hO9 := hO.len
  clear hL hS hO hT hg h1 h2 h3
  go_enter Try.func34, Try.ntmps34
  go_wp2_with fail
  have hdk := HDK.out _ HB1.out
  generalize (w.alloc (.cells #[.slice al L.length cl, .slice a2 S.length cs, .slice ao O.length co] 27)).alloc (.cells #[.slice none 0 0, .slice none 0 0, .slice none 0 0] 27) = w1 at HB1 HX1 hdk ⊢
  obtain ⟨bk, hbk⟩ : ∃ bk, bk = w.heap.size := ⟨_, rfl⟩
  obtain ⟨rk, hrk⟩ : ∃ rk, rk = w.heap.size + 1 := ⟨_, rfl⟩
  have HRK : Hid (w.heap.size ≤ rk) := by show _ ≤ _; omega
  rw [← hrk, ← hbk] at HX1 ⊢
  clear hbk hrk
  refine hdk.mono ?_
  rintro e w2 ⟨rfl, hb2⟩
  have HX2 : Hid (w2.heap[bk]? = some (.cells #[.slice al L.length cl, .slice a2 S.length cs, .slice ao O.length co] 27 (0, 0)) ∧ w2.heap[rk]? = some (.cells #[.slice none 0 0, .slice none 0 0, .slice none 0 0] 27 (0, 0))) := ⟨(hb2.block _ (Array.getElem?_eq_some_iff.1 HX1.out.1).1).trans HX1.out.1, (hb2.block _ (Array.getElem?_eq_some_iff.1 HX1.out.2).1).trans HX1.out.2⟩
  have HB2 := hidF (blFl HB1.out hb2 HB1.out.size)
  clear hb2 HX1 HB1 hdk HDK
  by_cases hD : diskP L S O
  rotate_left
  · have HE : Hid (crA L S O n K t = ([], false)) := crA_no fun h => hD h.1
    rw [dkB_no hD]
    have hz4 := HX2.out.2
    have hb7 := HB2.out
    have HB9 : Hid (Below w.heap.size w (set3b w2 rk (.slice none 0 0) (.slice none 0 0) (.slice none 0 0))) := ((hb7.setCell (p := ⟨rk, 0, none⟩) HRK.out _).setCell (p := ⟨rk, 1, none⟩) HRK.out _).setCell (p := ⟨rk, 2, none⟩) HRK.out _
    have HR9 : Hid ((set3b w2 rk (.slice none 0 0) (.slice none 0 0) (.slice none 0 0)).heap[rk]? = some (.cells #[(.slice none 0 0), (.slice none 0 0), (.slice none 0 0)] 27 (0, 0))) := heap_setCell_same _ _ _ _ _ _ (heap_setCell_same _ _ _ _ _ _ (heap_setCell_same _ _ _ _ _ _ hz4))
    have z0 := cell_of_row _ _ 0 _ _ _ hz4
    have z1 := cell_of_row _ _ 1 _ _ _ hz4
    have z2 := cell_of_row _ _ 2 _ _ _ hz4
    have f0 := frozen_of_row _ _ 0 _ _ hz4
    have f1 := frozen_of_row _ _ 1 _ _ hz4
    have f2 := frozen_of_row _ _ 2 _ _ hz4
    clear hz4 hb7 hD
    go_wp2_with fail
    exact bodyPost_ret (results_cell_t rfl _ _ rk 27 #[(.slice none 0 0), (.slice none 0 0), (.slice none 0 0)] (0, 0) _ rfl HR9.out Try.underlying27 rfl (by kernel_rfl)) rfl ⟨by rw [HE.out]; exact ⟨_, _, _, rfl, Or.inl ⟨rfl, rfl⟩, Or.inl ⟨rfl, rfl⟩, Or.inl ⟨rfl, rfl⟩⟩, HB9.out⟩
  have HD := hidF hD
  rw [dkB_yes hD]
  clear hD
  by_cases ht : t < 0
  · have HE : Hid (crA L S O n K t = ([], false)) := crA_no fun h => absurd h.2.2.1 (by omega)
    have hz4 := HX2.out.2
    have hb7 := HB2.out
    have HB9 : Hid (Below w.heap.size w (set3b w2 rk (.slice none 0 0) (.slice none 0 0) (.slice none 0 0))) := ((hb7.setCell (p := ⟨rk, 0, none⟩) HRK.out _).setCell (p := ⟨rk, 1, none⟩) HRK.out _).setCell (p := ⟨rk, 2, none⟩) HRK.out _
    have HR9 : Hid ((set3b w2 rk (.slice none 0 0) (.slice none 0 0) (.slice none 0 0)).heap[rk]? = some (.cells #[(.slice none 0 0), (.slice none 0 0), (.slice none 0 0)] 27 (0, 0))) := heap_setCell_same _ _ _ _ _ _ (heap_setCell_same _ _ _ _ _ _ (heap_setCell_same _ _ _ _ _ _ hz4))
    have z0 := cell_of_row _ _ 0 _ _ _ hz4
    have z1 := cell_of_row _ _ 1 _ _ _ hz4
    have z2 := cell_of_row _ _ 2 _ _ _ hz4
    have f0 := frozen_of_row _ _ 0 _ _ hz4
    have f1 := frozen_of_row _ _ 1 _ _ hz4
    have f2 := frozen_of_row _ _ 2 _ _ hz4
    clear hz4 hb7 
    go_wp2_with fail
    exact bodyPost_ret (results_cell_t rfl _ _ rk 27 #[(.slice none 0 0), (.slice none 0 0), (.slice none 0 0)] (0, 0) _ rfl HR9.out Try.underlying27 rfl (by kernel_rfl)) rfl ⟨by rw [HE.out]; exact ⟨_, _, _, rfl, Or.inl ⟨rfl, rfl⟩, Or.inl ⟨rfl, rfl⟩, Or.inl ⟨rfl, rfl⟩⟩, HB9.out⟩
  have HT0 : Hid (0 ≤ t) := by show _ ≤ _; omega
  have HP0 : Hid (plP 0 K O.length) := fun i hi => absurd hi (by omega)
  have HM0 : Hid (Below w.heap.size w w2 ∧ (w2.heap[bk]? = some (.cells #[.slice al L.length cl, .slice a2 S.length cs, .slice ao O.length co] 27 (0, 0)) ∧ w2.heap[rk]? = some (.cells #[.slice none 0 0, .slice none 0 0, .slice none 0 0] 27 (0, 0)))) := ⟨HB2.out, HX2.out⟩
  clear HB2 HX2
  go_wp2_with fail
  go_loopw [8] (fun y wr => ∃ i : Nat, i ≤ n ∧ y = .int .i64 (i : Int) ∧ Hid (plP i K O.length) ∧ Hid (Below w.heap.size w wr ∧ (wr.heap[bk]? = some (.cells #[.slice al L.length cl, .slice a2 S.length cs, .slice ao O.length co] 27 (0, 0)) ∧ wr.heap[rk]? = some (.cells #[.slice none 0 0, .slice none 0 0, .slice none 0 0] 27 (0, 0))))) (fun y _ => n - (intFl y).toNat)
  case atStart => exact ⟨0, by omega, rfl, HP0, HM0⟩
  case round =>
    clear HP0 HM0
    rename World => W0
    obtain ⟨i, hi, rfl, HP, HM⟩ := hrel
    by_cases hlt : i < n
    · have hltI : (i : Int) < (n : Int) := by omega
      have HIN := hidF hlt
      obtain ⟨ki, hki⟩ : ∃ ki, ki = K i := ⟨_, rfl⟩
      have HKI := hidF hki
      have hwo : IntKind.i64.wrap ((O.length : Int) - 1) = (O.length : Int) - 1 := by rw [IntKind.wrap_i64]; omega
      by_cases hin : 0 ≤ ki ∧ ki ≤ (O.length : Int) - 1
      rotate_left
      · have HINN : Hid (∀ w, Calls Try.prog 76 #[.int .i64 ki, .int .i64 0, .int .i64 ((O.length : Int) - 1)] w fun e w' => e = .returned (.bool false) ∧ w' = w) := fun w => in_no ki 0 _ w hin
        have HE : Hid (crA L S O n K t = ([], false)) := crA_no fun h => by
          have h1 := h.2.1 i hlt
          rw [← hki] at h1
          exact hin ⟨h1.1, by omega⟩
        clear hin hki
        go_wp2_with fail
        obtain ⟨SS, hSS⟩ : ∃ SS : World → Prop, SS = fun w' => Below w.heap.size w w' ∧ (w'.heap[bk]? = some (.cells #[.slice al L.length cl, .slice a2 S.length cs, .slice ao O.length co] 27 (0, 0)) ∧ w'.heap[rk]? = some (.cells #[.slice none 0 0, .slice none 0 0, .slice none 0 0] 27 (0, 0))) := ⟨_, rfl⟩
        have hSd : SS W0.drew := by rw [hSS]; exact ⟨HM.out.1.drew, HM.out.2⟩
        have HSX : Hid (∀ w', SS w' → w'.cell? ⟨g, i, none⟩ = some (.int .i64 ki) ∧ w'.cell? ⟨bk, 2, none⟩ = some (.slice ao O.length co)) := fun w' hq => by
          rw [hSS] at hq
          exact ⟨by rw [HKI.out]; exact HKC.out _ hq.1 i HIN.out, cell_of_row _ _ 2 _ _ _ hq.2.1⟩
        have HSS := hidF hSS
        clear hSS
        refine wp_region_held (S := SS) (by kernel_rfl) ?_
        change wpAnyH _ _ _ _ _ _ _ _ (World.drew _)
        generalize hX2 : W0.drew = X0 at hSd ⊢
        clear hX2
        refine wpAnyH_take (i := 0) (v := .slice (some ⟨g, 0, none⟩) n c) rfl (by kernel_rfl) (by kernel_rfl) (by kernel_rfl) (fun _ _ _ h => h) (Or.inl ⟨by rfl, by intro w' hS';  go_simp <;> (first | omega | rfl | (rw [IntKind.wrap_i64]; omega))⟩) hSd ?_
        (try simp only [List.getElem_toArray, List.getElem_cons_succ, List.getElem_cons_zero, Act.put, List.setIfInBounds_toArray, List.set_cons_zero, List.set_cons_succ])
        refine wpAnyH_take (i := 1) (v := .int .i64 (i : Int)) rfl (by kernel_rfl) (by kernel_rfl) (by kernel_rfl) (fun _ _ _ h => h) (Or.inl ⟨by rfl, by intro w' hS';  go_simp <;> (first | omega | rfl | (rw [IntKind.wrap_i64]; omega))⟩) hSd ?_
        (try simp only [List.getElem_toArray, List.getElem_cons_succ, List.getElem_cons_zero, Act.put, List.setIfInBounds_toArray, List.set_cons_zero, List.set_cons_succ])
        refine wpAnyH_take (i := 2) (v := .pointer (some ⟨g, i, none⟩)) rfl (by kernel_rfl) (by kernel_rfl) (by kernel_rfl) (fun _ _ _ h => h) (Or.inl ⟨by rfl, by intro w' hS';  go_simp <;> (first | omega | rfl | (rw [IntKind.wrap_i64]; omega))⟩) hSd ?_
        (try simp only [List.getElem_toArray, List.getElem_cons_succ, List.getElem_cons_zero, Act.put, List.setIfInBounds_toArray, List.set_cons_zero, List.set_cons_succ])
        refine wpAnyH_take (i := 3) (v := .int .i64 ki) rfl (by kernel_rfl) (by kernel_rfl) (by kernel_rfl) (fun _ _ _ h => h) (Or.inl ⟨by rfl, by intro w' hS'; obtain ⟨xa, xb⟩ := HSX.out w' hS'; go_simp <;> (first | omega | rfl | (rw [IntKind.wrap_i64]; omega))⟩) hSd ?_
        (try simp only [List.getElem_toArray, List.getElem_cons_succ, List.getElem_cons_zero, Act.put, List.setIfInBounds_toArray, List.set_cons_zero, List.set_cons_succ])
        refine wpAnyH_take (i := 4) (v := .pointer (some ⟨bk, 2, none⟩)) rfl (by kernel_rfl) (by kernel_rfl) (by kernel_rfl) (fun _ _ _ h => h) (Or.inl ⟨by rfl, by intro w' hS';  go_simp <;> (first | omega | rfl | (rw [IntKind.wrap_i64]; omega))⟩) hSd ?_
        (try simp only [List.getElem_toArray, List.getElem_cons_succ, List.getElem_cons_zero, Act.put, List.setIfInBounds_toArray, List.set_cons_zero, List.set_cons_succ])
        refine wpAnyH_take (i := 5) (v := .slice ao O.length co) rfl (by kernel_rfl) (by kernel_rfl) (by kernel_rfl) (fun _ _ _ h => h) (Or.inl ⟨by rfl, by intro w' hS'; obtain ⟨xa, xb⟩ := HSX.out w' hS'; go_simp <;> (first | omega | rfl | (rw [IntKind.wrap_i64]; omega))⟩) hSd ?_
        (try simp only [List.getElem_toArray, List.getElem_cons_succ, List.getElem_cons_zero, Act.put, List.setIfInBounds_toArray, List.set_cons_zero, List.set_cons_succ])
        refine wpAnyH_take (i := 6) (v := .int .i64 (O.length : Int)) rfl (by kernel_rfl) (by kernel_rfl) (by kernel_rfl) (fun _ _ _ h => h) (Or.inl ⟨by rfl, by intro w' hS';  go_simp <;> (first | omega | rfl | (rw [IntKind.wrap_i64]; omega))⟩) hSd ?_
        (try simp only [List.getElem_toArray, List.getElem_cons_succ, List.getElem_cons_zero, Act.put, List.setIfInBounds_toArray, List.set_cons_zero, List.set_cons_succ])
        refine wpAnyH_take (i := 7) (v := .int .i64 ((O.length : Int) - 1)) rfl (by kernel_rfl) (by kernel_rfl) (by kernel_rfl) (fun _ _ _ h => h) (Or.inl ⟨by rfl, by intro w' hS';  go_simp <;> (first | omega | rfl | (rw [IntKind.wrap_i64]; omega))⟩) hSd ?_
        (try simp only [List.getElem_toArray, List.getElem_cons_succ, List.getElem_cons_zero, Act.put, List.setIfInBounds_toArray, List.set_cons_zero, List.set_cons_succ])
        refine held_stepS (i := 8) (by kernel_rfl) rfl (by rfl) ?_
        go_simp
        refine (HINN.out X0).mono ?_
        rintro e w5 ⟨rfl, rfl⟩
        refine ⟨hSd, ?_⟩
        (try simp only [List.getElem_toArray, List.getElem_cons_succ, List.getElem_cons_zero, Act.put, List.setIfInBounds_toArray, List.set_cons_zero, List.set_cons_succ])
        refine wpAnyH_take (i := 9) (v := .bool true) rfl (by kernel_rfl) (by kernel_rfl) (by kernel_rfl) (fun _ _ _ h => h) (Or.inl ⟨by rfl, by intro w' hS';  go_simp <;> (first | omega | rfl | (rw [IntKind.wrap_i64]; omega))⟩) hSd ?_
        (try simp only [List.getElem_toArray, List.getElem_cons_succ, List.getElem_cons_zero, Act.put, List.setIfInBounds_toArray, List.set_cons_zero, List.set_cons_succ])
        refine wpAnyH_take (i := 10) (v := .bool true) rfl (by kernel_rfl) (by kernel_rfl) (by kernel_rfl) (fun _ _ _ h => h) (Or.inl ⟨by rfl, by intro w' hS';  go_simp <;> (first | omega | rfl | (rw [IntKind.wrap_i64]; omega))⟩) hSd ?_
        (try simp only [List.getElem_toArray, List.getElem_cons_succ, List.getElem_cons_zero, Act.put, List.setIfInBounds_toArray, List.set_cons_zero, List.set_cons_succ])
        refine wpAnyH_take (i := 11) (v := undef) rfl (by kernel_rfl) (by kernel_rfl) (by kernel_rfl) (fun _ _ _ h => h) (Or.inr ⟨by rfl, rfl⟩) hSd ?_
        (try simp only [List.getElem_toArray, List.getElem_cons_succ, List.getElem_cons_zero, Act.put, List.setIfInBounds_toArray, List.set_cons_zero, List.set_cons_succ])
        refine wpAnyH_take (i := 12) (v := undef) rfl (by kernel_rfl) (by kernel_rfl) (by kernel_rfl) (fun _ _ _ h => h) (Or.inr ⟨by rfl, rfl⟩) hSd ?_
        (try simp only [List.getElem_toArray, List.getElem_cons_succ, List.getElem_cons_zero, Act.put, List.setIfInBounds_toArray, List.set_cons_zero, List.set_cons_succ])
        refine wpAnyH_take (i := 13) (v := undef) rfl (by kernel_rfl) (by kernel_rfl) (by kernel_rfl) (fun _ _ _ h => h) (Or.inr ⟨by rfl, rfl⟩) hSd ?_
        (try simp only [List.getElem_toArray, List.getElem_cons_succ, List.getElem_cons_zero, Act.put, List.setIfInBounds_toArray, List.set_cons_zero, List.set_cons_succ])
        refine wpAnyH_take (i := 14) (v := undef) rfl (by kernel_rfl) (by kernel_rfl) (by kernel_rfl) (fun _ _ _ h => h) (Or.inr ⟨by rfl, rfl⟩) hSd ?_
        (try simp only [List.getElem_toArray, List.getElem_cons_succ, List.getElem_cons_zero, Act.put, List.setIfInBounds_toArray, List.set_cons_zero, List.set_cons_succ])
        refine wpAnyH_take (i := 15) (v := undef) rfl (by kernel_rfl) (by kernel_rfl) (by kernel_rfl) (fun _ _ _ h => h) (Or.inr ⟨by rfl, rfl⟩) hSd ?_
        (try simp only [List.getElem_toArray, List.getElem_cons_succ, List.getElem_cons_zero, Act.put, List.setIfInBounds_toArray, List.set_cons_zero, List.set_cons_succ])
        refine wpAnyH_take (i := 16) (v := undef) rfl (by kernel_rfl) (by kernel_rfl) (by kernel_rfl) (fun _ _ _ h => h) (Or.inr ⟨by rfl, rfl⟩) hSd ?_
        (try simp only [List.getElem_toArray, List.getElem_cons_succ, List.getElem_cons_zero, Act.put, List.setIfInBounds_toArray, List.set_cons_zero, List.set_cons_succ])
        refine wpAnyH_take (i := 17) (v := undef) rfl (by kernel_rfl) (by kernel_rfl) (by kernel_rfl) (fun _ _ _ h => h) (Or.inr ⟨by rfl, rfl⟩) hSd ?_
        (try simp only [List.getElem_toArray, List.getElem_cons_succ, List.getElem_cons_zero, Act.put, List.setIfInBounds_toArray, List.set_cons_zero, List.set_cons_succ])
        refine wpAnyH_take (i := 18) (v := undef) rfl (by kernel_rfl) (by kernel_rfl) (by kernel_rfl) (fun _ _ _ h => h) (Or.inr ⟨by rfl, rfl⟩) hSd ?_
        (try simp only [List.getElem_toArray, List.getElem_cons_succ, List.getElem_cons_zero, Act.put, List.setIfInBounds_toArray, List.set_cons_zero, List.set_cons_succ])
        refine wpAnyH_take (i := 19) (v := undef) rfl (by kernel_rfl) (by kernel_rfl) (by kernel_rfl) (fun _ _ _ h => h) (Or.inr ⟨by rfl, rfl⟩) hSd ?_
        (try simp only [List.getElem_toArray, List.getElem_cons_succ, List.getElem_cons_zero, Act.put, List.setIfInBounds_toArray, List.set_cons_zero, List.set_cons_succ])
        refine wpAnyH_take (i := 20) (v := undef) rfl (by kernel_rfl) (by kernel_rfl) (by kernel_rfl) (fun _ _ _ h => h) (Or.inr ⟨by rfl, rfl⟩) hSd ?_
        (try simp only [List.getElem_toArray, List.getElem_cons_succ, List.getElem_cons_zero, Act.put, List.setIfInBounds_toArray, List.set_cons_zero, List.set_cons_succ])
        refine wpAnyH_take (i := 21) (v := undef) rfl (by kernel_rfl) (by kernel_rfl) (by kernel_rfl) (fun _ _ _ h => h) (Or.inr ⟨by rfl, rfl⟩) hSd ?_
        (try simp only [List.getElem_toArray, List.getElem_cons_succ, List.getElem_cons_zero, Act.put, List.setIfInBounds_toArray, List.set_cons_zero, List.set_cons_succ])
        refine wpAnyH_take (i := 22) (v := undef) rfl (by kernel_rfl) (by kernel_rfl) (by kernel_rfl) (fun _ _ _ h => h) (Or.inr ⟨by rfl, rfl⟩) hSd ?_
        (try simp only [List.getElem_toArray, List.getElem_cons_succ, List.getElem_cons_zero, Act.put, List.setIfInBounds_toArray, List.set_cons_zero, List.set_cons_succ])
        refine wpAnyH_take (i := 23) (v := undef) rfl (by kernel_rfl) (by kernel_rfl) (by kernel_rfl) (fun _ _ _ h => h) (Or.inr ⟨by rfl, rfl⟩) hSd ?_
        (try simp only [List.getElem_toArray, List.getElem_cons_succ, List.getElem_cons_zero, Act.put, List.setIfInBounds_toArray, List.set_cons_zero, List.set_cons_succ])
        refine wpAnyH_take (i := 24) (v := undef) rfl (by kernel_rfl) (by kernel_rfl) (by kernel_rfl) (fun _ _ _ h => h) (Or.inr ⟨by rfl, rfl⟩) hSd ?_
        (try simp only [List.getElem_toArray, List.getElem_cons_succ, List.getElem_cons_zero, Act.put, List.setIfInBounds_toArray, List.set_cons_zero, List.set_cons_succ])
        refine wpAnyH_take (i := 25) (v := .bool true) rfl (by kernel_rfl) (by kernel_rfl) (by kernel_rfl) (fun _ _ _ h => h) (Or.inl ⟨by rfl, by intro w' hS';  go_simp <;> (first | omega | rfl | (rw [IntKind.wrap_i64]; omega))⟩) hSd ?_
        (try simp only [List.getElem_toArray, List.getElem_cons_succ, List.getElem_cons_zero, Act.put, List.setIfInBounds_toArray, List.set_cons_zero, List.set_cons_succ])
        refine wpAnyH_done (by kernel_rfl) ?_ _
        have HM5 : Hid (Below w.heap.size w w5 ∧ (w5.heap[bk]? = some (.cells #[.slice al L.length cl, .slice a2 S.length cs, .slice ao O.length co] 27 (0, 0)) ∧ w5.heap[rk]? = some (.cells #[.slice none 0 0, .slice none 0 0, .slice none 0 0] 27 (0, 0)))) := by rw [HSS.out] at hSd; exact hSd
        clear hSd HSX HM HSS
        have HX5 := hidF HM5.out.2
        have HB5 := hidF HM5.out.1
        have hz4 := HX5.out.2
        have hb7 := HB5.out
        have HB9 : Hid (Below w.heap.size w (set3b w5 rk (.slice none 0 0) (.slice none 0 0) (.slice none 0 0))) := ((hb7.setCell (p := ⟨rk, 0, none⟩) HRK.out _).setCell (p := ⟨rk, 1, none⟩) HRK.out _).setCell (p := ⟨rk, 2, none⟩) HRK.out _
        have HR9 : Hid ((set3b w5 rk (.slice none 0 0) (.slice none 0 0) (.slice none 0 0)).heap[rk]? = some (.cells #[(.slice none 0 0), (.slice none 0 0), (.slice none 0 0)] 27 (0, 0))) := heap_setCell_same _ _ _ _ _ _ (heap_setCell_same _ _ _ _ _ _ (heap_setCell_same _ _ _ _ _ _ hz4))
        have z0 := cell_of_row _ _ 0 _ _ _ hz4
        have z1 := cell_of_row _ _ 1 _ _ _ hz4
        have z2 := cell_of_row _ _ 2 _ _ _ hz4
        have f0 := frozen_of_row _ _ 0 _ _ hz4
        have f1 := frozen_of_row _ _ 1 _ _ hz4
        have f2 := frozen_of_row _ _ 2 _ _ hz4
        clear hz4 hb7 HM5
        go_wp2_with fail
        exact bodyPost_ret (results_cell_t rfl _ _ rk 27 #[(.slice none 0 0), (.slice none 0 0), (.slice none 0 0)] (0, 0) _ rfl HR9.out Try.underlying27 rfl (by kernel_rfl)) rfl ⟨by rw [HE.out]; exact ⟨_, _, _, rfl, Or.inl ⟨rfl, rfl⟩, Or.inl ⟨rfl, rfl⟩, Or.inl ⟨rfl, rfl⟩⟩, HB9.out⟩
      have HINY : Hid (∀ w, Calls Try.prog 76 #[.int .i64 ki, .int .i64 0, .int .i64 ((O.length : Int) - 1)] w fun e w' => e = .returned (.bool true) ∧ w' = w) := fun w => in_yes ki 0 _ w hin.1 hin.2
      have HINR := hidF hin
      clear hin
      by_cases hi0 : i = 0
      · subst hi0
        have HP1 : Hid (plP 1 K O.length) := plP_step HP.out (by have := HINR.out.1; show (-1 : Int) < _; omega) (by have := HINR.out.2; omega)
        clear HINR HP hki
        go_wp2_with fail
        obtain ⟨SS, hSS⟩ : ∃ SS : World → Prop, SS = fun w' => Below w.heap.size w w' ∧ (w'.heap[bk]? = some (.cells #[.slice al L.length cl, .slice a2 S.length cs, .slice ao O.length co] 27 (0, 0)) ∧ w'.heap[rk]? = some (.cells #[.slice none 0 0, .slice none 0 0, .slice none 0 0] 27 (0, 0))) := ⟨_, rfl⟩
        have hSd : SS W0.drew := by rw [hSS]; exact ⟨HM.out.1.drew, HM.out.2⟩
        have HSX : Hid (∀ w', SS w' → w'.cell? ⟨g, 0, none⟩ = some (.int .i64 ki) ∧ w'.cell? ⟨bk, 2, none⟩ = some (.slice ao O.length co)) := fun w' hq => by
          rw [hSS] at hq
          exact ⟨by rw [HKI.out]; exact HKC.out _ hq.1 0 HIN.out, cell_of_row _ _ 2 _ _ _ hq.2.1⟩
        have HSS := hidF hSS
        clear hSS
        refine wp_region_held (S := SS) (by kernel_rfl) ?_
        change wpAnyH _ _ _ _ _ _ _ _ (World.drew _)
        generalize hX2 : W0.drew = X0 at hSd ⊢
        clear hX2
        refine wpAnyH_take (i := 0) (v := .slice (some ⟨g, 0, none⟩) n c) rfl (by kernel_rfl) (by kernel_rfl) (by kernel_rfl) (fun _ _ _ h => h) (Or.inl ⟨by rfl, by intro w' hS';  go_simp <;> (first | omega | rfl | (rw [IntKind.wrap_i64]; omega))⟩) hSd ?_
        (try simp only [List.getElem_toArray, List.getElem_cons_succ, List.getElem_cons_zero, Act.put, List.setIfInBounds_toArray, List.set_cons_zero, List.set_cons_succ])
        refine wpAnyH_take (i := 1) (v := .int .i64 0) rfl (by kernel_rfl) (by kernel_rfl) (by kernel_rfl) (fun _ _ _ h => h) (Or.inl ⟨by rfl, by intro w' hS';  go_simp <;> (first | omega | rfl | (rw [IntKind.wrap_i64]; omega))⟩) hSd ?_
        (try simp only [List.getElem_toArray, List.getElem_cons_succ, List.getElem_cons_zero, Act.put, List.setIfInBounds_toArray, List.set_cons_zero, List.set_cons_succ])
        refine wpAnyH_take (i := 2) (v := .pointer (some ⟨g, 0, none⟩)) rfl (by kernel_rfl) (by kernel_rfl) (by kernel_rfl) (fun _ _ _ h => h) (Or.inl ⟨by rfl, by intro w' hS';  go_simp <;> (first | omega | rfl | (rw [IntKind.wrap_i64]; omega))⟩) hSd ?_
        (try simp only [List.getElem_toArray, List.getElem_cons_succ, List.getElem_cons_zero, Act.put, List.setIfInBounds_toArray, List.set_cons_zero, List.set_cons_succ])
        refine wpAnyH_take (i := 3) (v := .int .i64 ki) rfl (by kernel_rfl) (by kernel_rfl) (by kernel_rfl) (fun _ _ _ h => h) (Or.inl ⟨by rfl, by intro w' hS'; obtain ⟨xa, xb⟩ := HSX.out w' hS'; go_simp <;> (first | omega | rfl | (rw [IntKind.wrap_i64]; omega))⟩) hSd ?_
        (try simp only [List.getElem_toArray, List.getElem_cons_succ, List.getElem_cons_zero, Act.put, List.setIfInBounds_toArray, List.set_cons_zero, List.set_cons_succ])
        refine wpAnyH_take (i := 4) (v := .pointer (some ⟨bk, 2, none⟩)) rfl (by kernel_rfl) (by kernel_rfl) (by kernel_rfl) (fun _ _ _ h => h) (Or.inl ⟨by rfl, by intro w' hS';  go_simp <;> (first | omega | rfl | (rw [IntKind.wrap_i64]; omega))⟩) hSd ?_
        (try simp only [List.getElem_toArray, List.getElem_cons_succ, List.getElem_cons_zero, Act.put, List.setIfInBounds_toArray, List.set_cons_zero, List.set_cons_succ])
        refine wpAnyH_take (i := 5) (v := .slice ao O.length co) rfl (by kernel_rfl) (by kernel_rfl) (by kernel_rfl) (fun _ _ _ h => h) (Or.inl ⟨by rfl, by intro w' hS'; obtain ⟨xa, xb⟩ := HSX.out w' hS'; go_simp <;> (first | omega | rfl | (rw [IntKind.wrap_i64]; omega))⟩) hSd ?_
        (try simp only [List.getElem_toArray, List.getElem_cons_succ, List.getElem_cons_zero, Act.put, List.setIfInBounds_toArray, List.set_cons_zero, List.set_cons_succ])
        refine wpAnyH_take (i := 6) (v := .int .i64 (O.length : Int)) rfl (by kernel_rfl) (by kernel_rfl) (by kernel_rfl) (fun _ _ _ h => h) (Or.inl ⟨by rfl, by intro w' hS';  go_simp <;> (first | omega | rfl | (rw [IntKind.wrap_i64]; omega))⟩) hSd ?_
        (try simp only [List.getElem_toArray, List.getElem_cons_succ, List.getElem_cons_zero, Act.put, List.setIfInBounds_toArray, List.set_cons_zero, List.set_cons_succ])
        refine wpAnyH_take (i := 7) (v := .int .i64 ((O.length : Int) - 1)) rfl (by kernel_rfl) (by kernel_rfl) (by kernel_rfl) (fun _ _ _ h => h) (Or.inl ⟨by rfl, by intro w' hS';  go_simp <;> (first | omega | rfl | (rw [IntKind.wrap_i64]; omega))⟩) hSd ?_
        (try simp only [List.getElem_toArray, List.getElem_cons_succ, List.getElem_cons_zero, Act.put, List.setIfInBounds_toArray, List.set_cons_zero, List.set_cons_succ])
        refine held_stepS (i := 8) (by kernel_rfl) rfl (by rfl) ?_
        go_simp
        refine (HINY.out X0).mono ?_
        rintro e w5 ⟨rfl, rfl⟩
        refine ⟨hSd, ?_⟩
        (try simp only [List.getElem_toArray, List.getElem_cons_succ, List.getElem_cons_zero, Act.put, List.setIfInBounds_toArray, List.set_cons_zero, List.set_cons_succ])
        refine wpAnyH_take (i := 9) (v := .bool false) rfl (by kernel_rfl) (by kernel_rfl) (by kernel_rfl) (fun _ _ _ h => h) (Or.inl ⟨by rfl, by intro w' hS';  go_simp <;> (first | omega | rfl | (rw [IntKind.wrap_i64]; omega))⟩) hSd ?_
        (try simp only [List.getElem_toArray, List.getElem_cons_succ, List.getElem_cons_zero, Act.put, List.setIfInBounds_toArray, List.set_cons_zero, List.set_cons_succ])
        refine wpAnyH_take (i := 10) (v := .bool false) rfl (by kernel_rfl) (by kernel_rfl) (by kernel_rfl) (fun _ _ _ h => h) (Or.inl ⟨by rfl, by intro w' hS';  go_simp <;> (first | omega | rfl | (rw [IntKind.wrap_i64]; omega))⟩) hSd ?_
        (try simp only [List.getElem_toArray, List.getElem_cons_succ, List.getElem_cons_zero, Act.put, List.setIfInBounds_toArray, List.set_cons_zero, List.set_cons_succ])
        refine wpAnyH_take (i := 11) (v := .int .i64 0) rfl (by kernel_rfl) (by kernel_rfl) (by kernel_rfl) (fun _ _ _ h => h) (Or.inl ⟨by rfl, by intro w' hS';  go_simp <;> (first | omega | rfl | (rw [IntKind.wrap_i64]; omega))⟩) hSd ?_
        (try simp only [List.getElem_toArray, List.getElem_cons_succ, List.getElem_cons_zero, Act.put, List.setIfInBounds_toArray, List.set_cons_zero, List.set_cons_succ])
        refine wpAnyH_take (i := 12) (v := .bool false) rfl (by kernel_rfl) (by kernel_rfl) (by kernel_rfl) (fun _ _ _ h => h) (Or.inl ⟨by rfl, by intro w' hS';  go_simp <;> (first | omega | rfl | (rw [IntKind.wrap_i64]; omega))⟩) hSd ?_
        (try simp only [List.getElem_toArray, List.getElem_cons_succ, List.getElem_cons_zero, Act.put, List.setIfInBounds_toArray, List.set_cons_zero, List.set_cons_succ])
        refine wpAnyH_take (i := 13) (v := .bool false) rfl (by kernel_rfl) (by kernel_rfl) (by kernel_rfl) (fun _ _ _ h => h) (Or.inl ⟨by rfl, by intro w' hS';  go_simp <;> (first | omega | rfl | (rw [IntKind.wrap_i64]; omega))⟩) hSd ?_
        (try simp only [List.getElem_toArray, List.getElem_cons_succ, List.getElem_cons_zero, Act.put, List.setIfInBounds_toArray, List.set_cons_zero, List.set_cons_succ])
        refine wpAnyH_take (i := 14) (v := undef) rfl (by kernel_rfl) (by kernel_rfl) (by kernel_rfl) (fun _ _ _ h => h) (Or.inr ⟨by rfl, rfl⟩) hSd ?_
        (try simp only [List.getElem_toArray, List.getElem_cons_succ, List.getElem_cons_zero, Act.put, List.setIfInBounds_toArray, List.set_cons_zero, List.set_cons_succ])
        refine wpAnyH_take (i := 15) (v := undef) rfl (by kernel_rfl) (by kernel_rfl) (by kernel_rfl) (fun _ _ _ h => h) (Or.inr ⟨by rfl, rfl⟩) hSd ?_
        (try simp only [List.getElem_toArray, List.getElem_cons_succ, List.getElem_cons_zero, Act.put, List.setIfInBounds_toArray, List.set_cons_zero, List.set_cons_succ])
        refine wpAnyH_take (i := 16) (v := undef) rfl (by kernel_rfl) (by kernel_rfl) (by kernel_rfl) (fun _ _ _ h => h) (Or.inr ⟨by rfl, rfl⟩) hSd ?_
        (try simp only [List.getElem_toArray, List.getElem_cons_succ, List.getElem_cons_zero, Act.put, List.setIfInBounds_toArray, List.set_cons_zero, List.set_cons_succ])
        refine wpAnyH_take (i := 17) (v := undef) rfl (by kernel_rfl) (by kernel_rfl) (by kernel_rfl) (fun _ _ _ h => h) (Or.inr ⟨by rfl, rfl⟩) hSd ?_
        (try simp only [List.getElem_toArray, List.getElem_cons_succ, List.getElem_cons_zero, Act.put, List.setIfInBounds_toArray, List.set_cons_zero, List.set_cons_succ])
        refine wpAnyH_take (i := 18) (v := undef) rfl (by kernel_rfl) (by kernel_rfl) (by kernel_rfl) (fun _ _ _ h => h) (Or.inr ⟨by rfl, rfl⟩) hSd ?_
        (try simp only [List.getElem_toArray, List.getElem_cons_succ, List.getElem_cons_zero, Act.put, List.setIfInBounds_toArray, List.set_cons_zero, List.set_cons_succ])
        refine wpAnyH_take (i := 19) (v := undef) rfl (by kernel_rfl) (by kernel_rfl) (by kernel_rfl) (fun _ _ _ h => h) (Or.inr ⟨by rfl, rfl⟩) hSd ?_
        (try simp only [List.getElem_toArray, List.getElem_cons_succ, List.getElem_cons_zero, Act.put, List.setIfInBounds_toArray, List.set_cons_zero, List.set_cons_succ])
        refine wpAnyH_take (i := 20) (v := undef) rfl (by kernel_rfl) (by kernel_rfl) (by kernel_rfl) (fun _ _ _ h => h) (Or.inr ⟨by rfl, rfl⟩) hSd ?_
        (try simp only [List.getElem_toArray, List.getElem_cons_succ, List.getElem_cons_zero, Act.put, List.setIfInBounds_toArray, List.set_cons_zero, List.set_cons_succ])
        refine wpAnyH_take (i := 21) (v := undef) rfl (by kernel_rfl) (by kernel_rfl) (by kernel_rfl) (fun _ _ _ h => h) (Or.inr ⟨by rfl, rfl⟩) hSd ?_
        (try simp only [List.getElem_toArray, List.getElem_cons_succ, List.getElem_cons_zero, Act.put, List.setIfInBounds_toArray, List.set_cons_zero, List.set_cons_succ])
        refine wpAnyH_take (i := 22) (v := undef) rfl (by kernel_rfl) (by kernel_rfl) (by kernel_rfl) (fun _ _ _ h => h) (Or.inr ⟨by rfl, rfl⟩) hSd ?_
        (try simp only [List.getElem_toArray, List.getElem_cons_succ, List.getElem_cons_zero, Act.put, List.setIfInBounds_toArray, List.set_cons_zero, List.set_cons_succ])
        refine wpAnyH_take (i := 23) (v := undef) rfl (by kernel_rfl) (by kernel_rfl) (by kernel_rfl) (fun _ _ _ h => h) (Or.inr ⟨by rfl, rfl⟩) hSd ?_
        (try simp only [List.getElem_toArray, List.getElem_cons_succ, List.getElem_cons_zero, Act.put, List.setIfInBounds_toArray, List.set_cons_zero, List.set_cons_succ])
        refine wpAnyH_take (i := 24) (v := .bool false) rfl (by kernel_rfl) (by kernel_rfl) (by kernel_rfl) (fun _ _ _ h => h) (Or.inl ⟨by rfl, by intro w' hS';  go_simp <;> (first | omega | rfl | (rw [IntKind.wrap_i64]; omega))⟩) hSd ?_
        (try simp only [List.getElem_toArray, List.getElem_cons_succ, List.getElem_cons_zero, Act.put, List.setIfInBounds_toArray, List.set_cons_zero, List.set_cons_succ])
        refine wpAnyH_take (i := 25) (v := .bool false) rfl (by kernel_rfl) (by kernel_rfl) (by kernel_rfl) (fun _ _ _ h => h) (Or.inl ⟨by rfl, by intro w' hS';  go_simp <;> (first | omega | rfl | (rw [IntKind.wrap_i64]; omega))⟩) hSd ?_
        (try simp only [List.getElem_toArray, List.getElem_cons_succ, List.getElem_cons_zero, Act.put, List.setIfInBounds_toArray, List.set_cons_zero, List.set_cons_succ])
        refine wpAnyH_done (by kernel_rfl) ?_ _
        have HM5 : Hid (Below w.heap.size w w5 ∧ (w5.heap[bk]? = some (.cells #[.slice al L.length cl, .slice a2 S.length cs, .slice ao O.length co] 27 (0, 0)) ∧ w5.heap[rk]? = some (.cells #[.slice none 0 0, .slice none 0 0, .slice none 0 0] 27 (0, 0)))) := by rw [HSS.out] at hSd; exact hSd
        clear hSd HSX HM HSS
        go_wp2_with fail
        go_roundw
        case rel => exact ⟨1, by have := HIN.out; omega, by go_num, HP1, HM5⟩
        case measure => simp [intFl]; have := HIN.out; omega
      obtain ⟨i1, hi1⟩ : ∃ i1, i = i1 + 1 := ⟨i - 1, by omega⟩
      have hi1I : (i : Int) - 1 = (i1 : Int) := by omega
      have hi0I : (0 : Int) < (i : Int) := by omega
      obtain ⟨kj, hkj⟩ : ∃ kj, kj = K i1 := ⟨_, rfl⟩
      have HKJ := hidF hkj
      have hah : ahP K i = kj := by rw [hi1, hkj]; rfl
      by_cases hle : ki ≤ kj
      · have HE : Hid (crA L S O n K t = ([], false)) := crA_no fun h => plP_not hlt (Or.inl (by rw [← hki, hah]; exact hle)) h.2.1
        have HI1 := hidF hi1
        clear hah hi1 HP HINR hi0 hki hkj
        go_wp2_with fail
        obtain ⟨SS, hSS⟩ : ∃ SS : World → Prop, SS = fun w' => Below w.heap.size w w' ∧ (w'.heap[bk]? = some (.cells #[.slice al L.length cl, .slice a2 S.length cs, .slice ao O.length co] 27 (0, 0)) ∧ w'.heap[rk]? = some (.cells #[.slice none 0 0, .slice none 0 0, .slice none 0 0] 27 (0, 0))) := ⟨_, rfl⟩
        have hSd : SS W0.drew := by rw [hSS]; exact ⟨HM.out.1.drew, HM.out.2⟩
        have HSX : Hid (∀ w', SS w' → w'.cell? ⟨g, i, none⟩ = some (.int .i64 ki) ∧ w'.cell? ⟨bk, 2, none⟩ = some (.slice ao O.length co)) := fun w' hq => by
          rw [hSS] at hq
          exact ⟨by rw [HKI.out]; exact HKC.out _ hq.1 i HIN.out, cell_of_row _ _ 2 _ _ _ hq.2.1⟩
        have HSP : Hid (∀ w', SS w' → w'.cell? ⟨g, i1, none⟩ = some (.int .i64 kj)) := fun w' hq => by
          rw [hSS] at hq
          rw [HKJ.out]; exact HKC.out _ hq.1 i1 (by have := HIN.out; have := HI1.out; omega)
        have HSS := hidF hSS
        clear hSS
        refine wp_region_held (S := SS) (by kernel_rfl) ?_
        change wpAnyH _ _ _ _ _ _ _ _ (World.drew _)
        generalize hX2 : W0.drew = X0 at hSd ⊢
        clear hX2
        refine wpAnyH_take (i := 0) (v := .slice (some ⟨g, 0, none⟩) n c) rfl (by kernel_rfl) (by kernel_rfl) (by kernel_rfl) (fun _ _ _ h => h) (Or.inl ⟨by rfl, by intro w' hS';  go_simp <;> (first | omega | rfl | (rw [IntKind.wrap_i64]; omega))⟩) hSd ?_
        (try simp only [List.getElem_toArray, List.getElem_cons_succ, List.getElem_cons_zero, Act.put, List.setIfInBounds_toArray, List.set_cons_zero, List.set_cons_succ])
        refine wpAnyH_take (i := 1) (v := .int .i64 (i : Int)) rfl (by kernel_rfl) (by kernel_rfl) (by kernel_rfl) (fun _ _ _ h => h) (Or.inl ⟨by rfl, by intro w' hS';  go_simp <;> (first | omega | rfl | (rw [IntKind.wrap_i64]; omega))⟩) hSd ?_
        (try simp only [List.getElem_toArray, List.getElem_cons_succ, List.getElem_cons_zero, Act.put, List.setIfInBounds_toArray, List.set_cons_zero, List.set_cons_succ])
        refine wpAnyH_take (i := 2) (v := .pointer (some ⟨g, i, none⟩)) rfl (by kernel_rfl) (by kernel_rfl) (by kernel_rfl) (fun _ _ _ h => h) (Or.inl ⟨by rfl, by intro w' hS';  go_simp <;> (first | omega | rfl | (rw [IntKind.wrap_i64]; omega))⟩) hSd ?_
        (try simp only [List.getElem_toArray, List.getElem_cons_succ, List.getElem_cons_zero, Act.put, List.setIfInBounds_toArray, List.set_cons_zero, List.set_cons_succ])
        refine wpAnyH_take (i := 3) (v := .int .i64 ki) rfl (by kernel_rfl) (by kernel_rfl) (by kernel_rfl) (fun _ _ _ h => h) (Or.inl ⟨by rfl, by intro w' hS'; obtain ⟨xa, xb⟩ := HSX.out w' hS'; go_simp <;> (first | omega | rfl | (rw [IntKind.wrap_i64]; omega))⟩) hSd ?_
        (try simp only [List.getElem_toArray, List.getElem_cons_succ, List.getElem_cons_zero, Act.put, List.setIfInBounds_toArray, List.set_cons_zero, List.set_cons_succ])
        refine wpAnyH_take (i := 4) (v := .pointer (some ⟨bk, 2, none⟩)) rfl (by kernel_rfl) (by kernel_rfl) (by kernel_rfl) (fun _ _ _ h => h) (Or.inl ⟨by rfl, by intro w' hS';  go_simp <;> (first | omega | rfl | (rw [IntKind.wrap_i64]; omega))⟩) hSd ?_
        (try simp only [List.getElem_toArray, List.getElem_cons_succ, List.getElem_cons_zero, Act.put, List.setIfInBounds_toArray, List.set_cons_zero, List.set_cons_succ])
        refine wpAnyH_take (i := 5) (v := .slice ao O.length co) rfl (by kernel_rfl) (by kernel_rfl) (by kernel_rfl) (fun _ _ _ h => h) (Or.inl ⟨by rfl, by intro w' hS'; obtain ⟨xa, xb⟩ := HSX.out w' hS'; go_simp <;> (first | omega | rfl | (rw [IntKind.wrap_i64]; omega))⟩) hSd ?_
        (try simp only [List.getElem_toArray, List.getElem_cons_succ, List.getElem_cons_zero, Act.put, List.setIfInBounds_toArray, List.set_cons_zero, List.set_cons_succ])
        refine wpAnyH_take (i := 6) (v := .int .i64 (O.length : Int)) rfl (by kernel_rfl) (by kernel_rfl) (by kernel_rfl) (fun _ _ _ h => h) (Or.inl ⟨by rfl, by intro w' hS';  go_simp <;> (first | omega | rfl | (rw [IntKind.wrap_i64]; omega))⟩) hSd ?_
        (try simp only [List.getElem_toArray, List.getElem_cons_succ, List.getElem_cons_zero, Act.put, List.setIfInBounds_toArray, List.set_cons_zero, List.set_cons_succ])
        refine wpAnyH_take (i := 7) (v := .int .i64 ((O.length : Int) - 1)) rfl (by kernel_rfl) (by kernel_rfl) (by kernel_rfl) (fun _ _ _ h => h) (Or.inl ⟨by rfl, by intro w' hS';  go_simp <;> (first | omega | rfl | (rw [IntKind.wrap_i64]; omega))⟩) hSd ?_
        (try simp only [List.getElem_toArray, List.getElem_cons_succ, List.getElem_cons_zero, Act.put, List.setIfInBounds_toArray, List.set_cons_zero, List.set_cons_succ])
        refine held_stepS (i := 8) (by kernel_rfl) rfl (by rfl) ?_
        go_simp
        refine (HINY.out X0).mono ?_
        rintro e w5 ⟨rfl, rfl⟩
        refine ⟨hSd, ?_⟩
        (try simp only [List.getElem_toArray, List.getElem_cons_succ, List.getElem_cons_zero, Act.put, List.setIfInBounds_toArray, List.set_cons_zero, List.set_cons_succ])
        refine wpAnyH_take (i := 9) (v := .bool false) rfl (by kernel_rfl) (by kernel_rfl) (by kernel_rfl) (fun _ _ _ h => h) (Or.inl ⟨by rfl, by intro w' hS';  go_simp <;> (first | omega | rfl | (rw [IntKind.wrap_i64]; omega))⟩) hSd ?_
        (try simp only [List.getElem_toArray, List.getElem_cons_succ, List.getElem_cons_zero, Act.put, List.setIfInBounds_toArray, List.set_cons_zero, List.set_cons_succ])
        refine wpAnyH_take (i := 10) (v := .bool false) rfl (by kernel_rfl) (by kernel_rfl) (by kernel_rfl) (fun _ _ _ h => h) (Or.inl ⟨by rfl, by intro w' hS';  go_simp <;> (first | omega | rfl | (rw [IntKind.wrap_i64]; omega))⟩) hSd ?_
        (try simp only [List.getElem_toArray, List.getElem_cons_succ, List.getElem_cons_zero, Act.put, List.setIfInBounds_toArray, List.set_cons_zero, List.set_cons_succ])
        refine wpAnyH_take (i := 11) (v := .int .i64 (i : Int)) rfl (by kernel_rfl) (by kernel_rfl) (by kernel_rfl) (fun _ _ _ h => h) (Or.inl ⟨by rfl, by intro w' hS';  go_simp <;> (first | omega | rfl | (rw [IntKind.wrap_i64]; omega))⟩) hSd ?_
        (try simp only [List.getElem_toArray, List.getElem_cons_succ, List.getElem_cons_zero, Act.put, List.setIfInBounds_toArray, List.set_cons_zero, List.set_cons_succ])
        refine wpAnyH_take (i := 12) (v := .bool true) rfl (by kernel_rfl) (by kernel_rfl) (by kernel_rfl) (fun _ _ _ h => h) (Or.inl ⟨by rfl, by intro w' hS';  go_simp <;> (first | omega | rfl | (rw [IntKind.wrap_i64]; omega))⟩) hSd ?_
        (try simp only [List.getElem_toArray, List.getElem_cons_succ, List.getElem_cons_zero, Act.put, List.setIfInBounds_toArray, List.set_cons_zero, List.set_cons_succ])
        refine wpAnyH_take (i := 13) (v := .bool true) rfl (by kernel_rfl) (by kernel_rfl) (by kernel_rfl) (fun _ _ _ h => h) (Or.inl ⟨by rfl, by intro w' hS';  go_simp <;> (first | omega | rfl | (rw [IntKind.wrap_i64]; omega))⟩) hSd ?_
        (try simp only [List.getElem_toArray, List.getElem_cons_succ, List.getElem_cons_zero, Act.put, List.setIfInBounds_toArray, List.set_cons_zero, List.set_cons_succ])
        refine wpAnyH_take (i := 14) (v := .slice (some ⟨g, 0, none⟩) n c) rfl (by kernel_rfl) (by kernel_rfl) (by kernel_rfl) (fun _ _ _ h => h) (Or.inl ⟨by rfl, by intro w' hS';  go_simp <;> (first | omega | rfl | (rw [IntKind.wrap_i64]; omega))⟩) hSd ?_
        (try simp only [List.getElem_toArray, List.getElem_cons_succ, List.getElem_cons_zero, Act.put, List.setIfInBounds_toArray, List.set_cons_zero, List.set_cons_succ])
        refine wpAnyH_take (i := 15) (v := .int .i64 (i : Int)) rfl (by kernel_rfl) (by kernel_rfl) (by kernel_rfl) (fun _ _ _ h => h) (Or.inl ⟨by rfl, by intro w' hS';  go_simp <;> (first | omega | rfl | (rw [IntKind.wrap_i64]; omega))⟩) hSd ?_
        (try simp only [List.getElem_toArray, List.getElem_cons_succ, List.getElem_cons_zero, Act.put, List.setIfInBounds_toArray, List.set_cons_zero, List.set_cons_succ])
        refine wpAnyH_take (i := 16) (v := .pointer (some ⟨g, i, none⟩)) rfl (by kernel_rfl) (by kernel_rfl) (by kernel_rfl) (fun _ _ _ h => h) (Or.inl ⟨by rfl, by intro w' hS';  go_simp <;> (first | omega | rfl | (rw [IntKind.wrap_i64]; omega))⟩) hSd ?_
        (try simp only [List.getElem_toArray, List.getElem_cons_succ, List.getElem_cons_zero, Act.put, List.setIfInBounds_toArray, List.set_cons_zero, List.set_cons_succ])
        refine wpAnyH_take (i := 17) (v := .int .i64 ki) rfl (by kernel_rfl) (by kernel_rfl) (by kernel_rfl) (fun _ _ _ h => h) (Or.inl ⟨by rfl, by intro w' hS'; obtain ⟨xa, xb⟩ := HSX.out w' hS'; go_simp <;> (first | omega | rfl | (rw [IntKind.wrap_i64]; omega))⟩) hSd ?_
        (try simp only [List.getElem_toArray, List.getElem_cons_succ, List.getElem_cons_zero, Act.put, List.setIfInBounds_toArray, List.set_cons_zero, List.set_cons_succ])
        refine wpAnyH_take (i := 18) (v := .slice (some ⟨g, 0, none⟩) n c) rfl (by kernel_rfl) (by kernel_rfl) (by kernel_rfl) (fun _ _ _ h => h) (Or.inl ⟨by rfl, by intro w' hS';  go_simp <;> (first | omega | rfl | (rw [IntKind.wrap_i64]; omega))⟩) hSd ?_
        (try simp only [List.getElem_toArray, List.getElem_cons_succ, List.getElem_cons_zero, Act.put, List.setIfInBounds_toArray, List.set_cons_zero, List.set_cons_succ])
        refine wpAnyH_take (i := 19) (v := .int .i64 (i : Int)) rfl (by kernel_rfl) (by kernel_rfl) (by kernel_rfl) (fun _ _ _ h => h) (Or.inl ⟨by rfl, by intro w' hS';  go_simp <;> (first | omega | rfl | (rw [IntKind.wrap_i64]; omega))⟩) hSd ?_
        (try simp only [List.getElem_toArray, List.getElem_cons_succ, List.getElem_cons_zero, Act.put, List.setIfInBounds_toArray, List.set_cons_zero, List.set_cons_succ])
        refine wpAnyH_take (i := 20) (v := .int .i64 (i1 : Int)) rfl (by kernel_rfl) (by kernel_rfl) (by kernel_rfl) (fun _ _ _ h => h) (Or.inl ⟨by rfl, by intro w' hS';  go_simp <;> (first | omega | rfl | (rw [IntKind.wrap_i64]; omega))⟩) hSd ?_
        (try simp only [List.getElem_toArray, List.getElem_cons_succ, List.getElem_cons_zero, Act.put, List.setIfInBounds_toArray, List.set_cons_zero, List.set_cons_succ])
        refine wpAnyH_take (i := 21) (v := .pointer (some ⟨g, i1, none⟩)) rfl (by kernel_rfl) (by kernel_rfl) (by kernel_rfl) (fun _ _ _ h => h) (Or.inl ⟨by rfl, by intro w' hS';  go_simp <;> (first | omega | rfl | (rw [IntKind.wrap_i64]; omega))⟩) hSd ?_
        (try simp only [List.getElem_toArray, List.getElem_cons_succ, List.getElem_cons_zero, Act.put, List.setIfInBounds_toArray, List.set_cons_zero, List.set_cons_succ])
        refine wpAnyH_take (i := 22) (v := .int .i64 kj) rfl (by kernel_rfl) (by kernel_rfl) (by kernel_rfl) (fun _ _ _ h => h) (Or.inl ⟨by rfl, by intro w' hS'; have xp := HSP.out w' hS'; go_simp <;> (first | omega | rfl | (rw [IntKind.wrap_i64]; omega))⟩) hSd ?_
        (try simp only [List.getElem_toArray, List.getElem_cons_succ, List.getElem_cons_zero, Act.put, List.setIfInBounds_toArray, List.set_cons_zero, List.set_cons_succ])
        refine wpAnyH_take (i := 23) (v := .bool true) rfl (by kernel_rfl) (by kernel_rfl) (by kernel_rfl) (fun _ _ _ h => h) (Or.inl ⟨by rfl, by intro w' hS';  go_simp <;> (first | omega | rfl | (rw [IntKind.wrap_i64]; omega))⟩) hSd ?_
        (try simp only [List.getElem_toArray, List.getElem_cons_succ, List.getElem_cons_zero, Act.put, List.setIfInBounds_toArray, List.set_cons_zero, List.set_cons_succ])
        refine wpAnyH_take (i := 24) (v := .bool true) rfl (by kernel_rfl) (by kernel_rfl) (by kernel_rfl) (fun _ _ _ h => h) (Or.inl ⟨by rfl, by intro w' hS';  go_simp <;> (first | omega | rfl | (rw [IntKind.wrap_i64]; omega))⟩) hSd ?_
        (try simp only [List.getElem_toArray, List.getElem_cons_succ, List.getElem_cons_zero, Act.put, List.setIfInBounds_toArray, List.set_cons_zero, List.set_cons_succ])
        refine wpAnyH_take (i := 25) (v := .bool true) rfl (by kernel_rfl) (by kernel_rfl) (by kernel_rfl) (fun _ _ _ h => h) (Or.inl ⟨by rfl, by intro w' hS';  go_simp <;> (first | omega | rfl | (rw [IntKind.wrap_i64]; omega))⟩) hSd ?_
        (try simp only [List.getElem_toArray, List.getElem_cons_succ, List.getElem_cons_zero, Act.put, List.setIfInBounds_toArray, List.set_cons_zero, List.set_cons_succ])
        refine wpAnyH_done (by kernel_rfl) ?_ _
        have HM5 : Hid (Below w.heap.size w w5 ∧ (w5.heap[bk]? = some (.cells #[.slice al L.length cl, .slice a2 S.length cs, .slice ao O.length co] 27 (0, 0)) ∧ w5.heap[rk]? = some (.cells #[.slice none 0 0, .slice none 0 0, .slice none 0 0] 27 (0, 0)))) := by rw [HSS.out] at hSd; exact hSd
        clear hSd HSX HM HSS
        have HX5 := hidF HM5.out.2
        have HB5 := hidF HM5.out.1
        have hz4 := HX5.out.2
        have hb7 := HB5.out
        have HB9 : Hid (Below w.heap.size w (set3b w5 rk (.slice none 0 0) (.slice none 0 0) (.slice none 0 0))) := ((hb7.setCell (p := ⟨rk, 0, none⟩) HRK.out _).setCell (p := ⟨rk, 1, none⟩) HRK.out _).setCell (p := ⟨rk, 2, none⟩) HRK.out _
        have HR9 : Hid ((set3b w5 rk (.slice none 0 0) (.slice none 0 0) (.slice none 0 0)).heap[rk]? = some (.cells #[(.slice none 0 0), (.slice none 0 0), (.slice none 0 0)] 27 (0, 0))) := heap_setCell_same _ _ _ _ _ _ (heap_setCell_same _ _ _ _ _ _ (heap_setCell_same _ _ _ _ _ _ hz4))
        have z0 := cell_of_row _ _ 0 _ _ _ hz4
        have z1 := cell_of_row _ _ 1 _ _ _ hz4
        have z2 := cell_of_row _ _ 2 _ _ _ hz4
        have f0 := frozen_of_row _ _ 0 _ _ hz4
        have f1 := frozen_of_row _ _ 1 _ _ hz4
        have f2 := frozen_of_row _ _ 2 _ _ hz4
        clear hz4 hb7 HM5 HSP
        go_wp2_with fail
        exact bodyPost_ret (results_cell_t rfl _ _ rk 27 #[(.slice none 0 0), (.slice none 0 0), (.slice none 0 0)] (0, 0) _ rfl HR9.out Try.underlying27 rfl (by kernel_rfl)) rfl ⟨by rw [HE.out]; exact ⟨_, _, _, rfl, Or.inl ⟨rfl, rfl⟩, Or.inl ⟨rfl, rfl⟩, Or.inl ⟨rfl, rfl⟩⟩, HB9.out⟩
      have HP1 : Hid (plP (i + 1) K O.length) := plP_step HP.out (by rw [hah, ← hki]; omega) (by have := HINR.out.2; omega)
      have HI1 := hidF hi1
      clear hah hi1 HP HINR hi0 hki hkj
      go_wp2_with fail
      obtain ⟨SS, hSS⟩ : ∃ SS : World → Prop, SS = fun w' => Below w.heap.size w w' ∧ (w'.heap[bk]? = some (.cells #[.slice al L.length cl, .slice a2 S.length cs, .slice ao O.length co] 27 (0, 0)) ∧ w'.heap[rk]? = some (.cells #[.slice none 0 0, .slice none 0 0, .slice none 0 0] 27 (0, 0))) := ⟨_, rfl⟩
      have hSd : SS W0.drew := by rw [hSS]; exact ⟨HM.out.1.drew, HM.out.2⟩
      have HSX : Hid (∀ w', SS w' → w'.cell? ⟨g, i, none⟩ = some (.int .i64 ki) ∧ w'.cell? ⟨bk, 2, none⟩ = some (.slice ao O.length co)) := fun w' hq => by
        rw [hSS] at hq
        exact ⟨by rw [HKI.out]; exact HKC.out _ hq.1 i HIN.out, cell_of_row _ _ 2 _ _ _ hq.2.1⟩
      have HSP : Hid (∀ w', SS w' → w'.cell? ⟨g, i1, none⟩ = some (.int .i64 kj)) := fun w' hq => by
        rw [hSS] at hq
        rw [HKJ.out]; exact HKC.out _ hq.1 i1 (by have := HIN.out; have := HI1.out; omega)
      have HSS := hidF hSS
      clear hSS
      refine wp_region_held (S := SS) (by kernel_rfl) ?_
      change wpAnyH _ _ _ _ _ _ _ _ (World.drew _)
      generalize hX2 : W0.drew = X0 at hSd ⊢
      clear hX2
      refine wpAnyH_take (i := 0) (v := .slice (some ⟨g, 0, none⟩) n c) rfl (by kernel_rfl) (by kernel_rfl) (by kernel_rfl) (fun _ _ _ h => h) (Or.inl ⟨by rfl, by intro w' hS';  go_simp <;> (first | omega | rfl | (rw [IntKind.wrap_i64]; omega))⟩) hSd ?_
      (try simp only [List.getElem_toArray, List.getElem_cons_succ, List.getElem_cons_zero, Act.put, List.setIfInBounds_toArray, List.set_cons_zero, List.set_cons_succ])
      refine wpAnyH_take (i := 1) (v := .int .i64 (i : Int)) rfl (by kernel_rfl) (by kernel_rfl) (by kernel_rfl) (fun _ _ _ h => h) (Or.inl ⟨by rfl, by intro w' hS';  go_simp <;> (first | omega | rfl | (rw [IntKind.wrap_i64]; omega))⟩) hSd ?_
      (try simp only [List.getElem_toArray, List.getElem_cons_succ, List.getElem_cons_zero, Act.put, List.setIfInBounds_toArray, List.set_cons_zero, List.set_cons_succ])
      refine wpAnyH_take (i := 2) (v := .pointer (some ⟨g, i, none⟩)) rfl (by kernel_rfl) (by kernel_rfl) (by kernel_rfl) (fun _ _ _ h => h) (Or.inl ⟨by rfl, by intro w' hS';  go_simp <;> (first | omega | rfl | (rw [IntKind.wrap_i64]; omega))⟩) hSd ?_
      (try simp only [List.getElem_toArray, List.getElem_cons_succ, List.getElem_cons_zero, Act.put, List.setIfInBounds_toArray, List.set_cons_zero, List.set_cons_succ])
      refine wpAnyH_take (i := 3) (v := .int .i64 ki) rfl (by kernel_rfl) (by kernel_rfl) (by kernel_rfl) (fun _ _ _ h => h) (Or.inl ⟨by rfl, by intro w' hS'; obtain ⟨xa, xb⟩ := HSX.out w' hS'; go_simp <;> (first | omega | rfl | (rw [IntKind.wrap_i64]; omega))⟩) hSd ?_
      (try simp only [List.getElem_toArray, List.getElem_cons_succ, List.getElem_cons_zero, Act.put, List.setIfInBounds_toArray, List.set_cons_zero, List.set_cons_succ])
      refine wpAnyH_take (i := 4) (v := .pointer (some ⟨bk, 2, none⟩)) rfl (by kernel_rfl) (by kernel_rfl) (by kernel_rfl) (fun _ _ _ h => h) (Or.inl ⟨by rfl, by intro w' hS';  go_simp <;> (first | omega | rfl | (rw [IntKind.wrap_i64]; omega))⟩) hSd ?_
      (try simp only [List.getElem_toArray, List.getElem_cons_succ, List.getElem_cons_zero, Act.put, List.setIfInBounds_toArray, List.set_cons_zero, List.set_cons_succ])
      refine wpAnyH_take (i := 5) (v := .slice ao O.length co) rfl (by kernel_rfl) (by kernel_rfl) (by kernel_rfl) (fun _ _ _ h => h) (Or.inl ⟨by rfl, by intro w' hS'; obtain ⟨xa, xb⟩ := HSX.out w' hS'; go_simp <;> (first | omega | rfl | (rw [IntKind.wrap_i64]; omega))⟩) hSd ?_
      (try simp only [List.getElem_toArray, List.getElem_cons_succ, List.getElem_cons_zero, Act.put, List.setIfInBounds_toArray, List.set_cons_zero, List.set_cons_succ])
      refine wpAnyH_take (i := 6) (v := .int .i64 (O.length : Int)) rfl (by kernel_rfl) (by kernel_rfl) (by kernel_rfl) (fun _ _ _ h => h) (Or.inl ⟨by rfl, by intro w' hS';  go_simp <;> (first | omega | rfl | (rw [IntKind.wrap_i64]; omega))⟩) hSd ?_
      (try simp only [List.getElem_toArray, List.getElem_cons_succ, List.getElem_cons_zero, Act.put, List.setIfInBounds_toArray, List.set_cons_zero, List.set_cons_succ])
      refine wpAnyH_take (i := 7) (v := .int .i64 ((O.length : Int) - 1)) rfl (by kernel_rfl) (by kernel_rfl) (by kernel_rfl) (fun _ _ _ h => h) (Or.inl ⟨by rfl, by intro w' hS';  go_simp <;> (first | omega | rfl | (rw [IntKind.wrap_i64]; omega))⟩) hSd ?_
      (try simp only [List.getElem_toArray, List.getElem_cons_succ, List.getElem_cons_zero, Act.put, List.setIfInBounds_toArray, List.set_cons_zero, List.set_cons_succ])
      refine held_stepS (i := 8) (by kernel_rfl) rfl (by rfl) ?_
      go_simp
      refine (HINY.out X0).mono ?_
      rintro e w5 ⟨rfl, rfl⟩
      refine ⟨hSd, ?_⟩
      (try simp only [List.getElem_toArray, List.getElem_cons_succ, List.getElem_cons_zero, Act.put, List.setIfInBounds_toArray, List.set_cons_zero, List.set_cons_succ])
      refine wpAnyH_take (i := 9) (v := .bool false) rfl (by kernel_rfl) (by kernel_rfl) (by kernel_rfl) (fun _ _ _ h => h) (Or.inl ⟨by rfl, by intro w' hS';  go_simp <;> (first | omega | rfl | (rw [IntKind.wrap_i64]; omega))⟩) hSd ?_
      (try simp only [List.getElem_toArray, List.getElem_cons_succ, List.getElem_cons_zero, Act.put, List.setIfInBounds_toArray, List.set_cons_zero, List.set_cons_succ])
      refine wpAnyH_take (i := 10) (v := .bool false) rfl (by kernel_rfl) (by kernel_rfl) (by kernel_rfl) (fun _ _ _ h => h) (Or.inl ⟨by rfl, by intro w' hS';  go_simp <;> (first | omega | rfl | (rw [IntKind.wrap_i64]; omega))⟩) hSd ?_
      (try simp only [List.getElem_toArray, List.getElem_cons_succ, List.getElem_cons_zero, Act.put, List.setIfInBounds_toArray, List.set_cons_zero, List.set_cons_succ])
      refine wpAnyH_take (i := 11) (v := .int .i64 (i : Int)) rfl (by kernel_rfl) (by kernel_rfl) (by kernel_rfl) (fun _ _ _ h => h) (Or.inl ⟨by rfl, by intro w' hS';  go_simp <;> (first | omega | rfl | (rw [IntKind.wrap_i64]; omega))⟩) hSd ?_
      (try simp only [List.getElem_toArray, List.getElem_cons_succ, List.getElem_cons_zero, Act.put, List.setIfInBounds_toArray, List.set_cons_zero, List.set_cons_succ])
      refine wpAnyH_take (i := 12) (v := .bool true) rfl (by kernel_rfl) (by kernel_rfl) (by kernel_rfl) (fun _ _ _ h => h) (Or.inl ⟨by rfl, by intro w' hS';  go_simp <;> (first | omega | rfl | (rw [IntKind.wrap_i64]; omega))⟩) hSd ?_
      (try simp only [List.getElem_toArray, List.getElem_cons_succ, List.getElem_cons_zero, Act.put, List.setIfInBounds_toArray, List.set_cons_zero, List.set_cons_succ])
      refine wpAnyH_take (i := 13) (v := .bool true) rfl (by kernel_rfl) (by kernel_rfl) (by kernel_rfl) (fun _ _ _ h => h) (Or.inl ⟨by rfl, by intro w' hS';  go_simp <;> (first | omega | rfl | (rw [IntKind.wrap_i64]; omega))⟩) hSd ?_
      (try simp only [List.getElem_toArray, List.getElem_cons_succ, List.getElem_cons_zero, Act.put, List.setIfInBounds_toArray, List.set_cons_zero, List.set_cons_succ])
      refine wpAnyH_take (i := 14) (v := .slice (some ⟨g, 0, none⟩) n c) rfl (by kernel_rfl) (by kernel_rfl) (by kernel_rfl) (fun _ _ _ h => h) (Or.inl ⟨by rfl, by intro w' hS';  go_simp <;> (first | omega | rfl | (rw [IntKind.wrap_i64]; omega))⟩) hSd ?_
      (try simp only [List.getElem_toArray, List.getElem_cons_succ, List.getElem_cons_zero, Act.put, List.setIfInBounds_toArray, List.set_cons_zero, List.set_cons_succ])
      refine wpAnyH_take (i := 15) (v := .int .i64 (i : Int)) rfl (by kernel_rfl) (by kernel_rfl) (by kernel_rfl) (fun _ _ _ h => h) (Or.inl ⟨by rfl, by intro w' hS';  go_simp <;> (first | omega | rfl | (rw [IntKind.wrap_i64]; omega))⟩) hSd ?_
      (try simp only [List.getElem_toArray, List.getElem_cons_succ, List.getElem_cons_zero, Act.put, List.setIfInBounds_toArray, List.set_cons_zero, List.set_cons_succ])
      refine wpAnyH_take (i := 16) (v := .pointer (some ⟨g, i, none⟩)) rfl (by kernel_rfl) (by kernel_rfl) (by kernel_rfl) (fun _ _ _ h => h) (Or.inl ⟨by rfl, by intro w' hS';  go_simp <;> (first | omega | rfl | (rw [IntKind.wrap_i64]; omega))⟩) hSd ?_
      (try simp only [List.getElem_toArray, List.getElem_cons_succ, List.getElem_cons_zero, Act.put, List.setIfInBounds_toArray, List.set_cons_zero, List.set_cons_succ])
      refine wpAnyH_take (i := 17) (v := .int .i64 ki) rfl (by kernel_rfl) (by kernel_rfl) (by kernel_rfl) (fun _ _ _ h => h) (Or.inl ⟨by rfl, by intro w' hS'; obtain ⟨xa, xb⟩ := HSX.out w' hS'; go_simp <;> (first | omega | rfl | (rw [IntKind.wrap_i64]; omega))⟩) hSd ?_
      (try simp only [List.getElem_toArray, List.getElem_cons_succ, List.getElem_cons_zero, Act.put, List.setIfInBounds_toArray, List.set_cons_zero, List.set_cons_succ])
      refine wpAnyH_take (i := 18) (v := .slice (some ⟨g, 0, none⟩) n c) rfl (by kernel_rfl) (by kernel_rfl) (by kernel_rfl) (fun _ _ _ h => h) (Or.inl ⟨by rfl, by intro w' hS';  go_simp <;> (first | omega | rfl | (rw [IntKind.wrap_i64]; omega))⟩) hSd ?_
      (try simp only [List.getElem_toArray, List.getElem_cons_succ, List.getElem_cons_zero, Act.put, List.setIfInBounds_toArray, List.set_cons_zero, List.set_cons_succ])
      refine wpAnyH_take (i := 19) (v := .int .i64 (i : Int)) rfl (by kernel_rfl) (by kernel_rfl) (by kernel_rfl) (fun _ _ _ h => h) (Or.inl ⟨by rfl, by intro w' hS';  go_simp <;> (first | omega | rfl | (rw [IntKind.wrap_i64]; omega))⟩) hSd ?_
      (try simp only [List.getElem_toArray, List.getElem_cons_succ, List.getElem_cons_zero, Act.put, List.setIfInBounds_toArray, List.set_cons_zero, List.set_cons_succ])
      refine wpAnyH_take (i := 20) (v := .int .i64 (i1 : Int)) rfl (by kernel_rfl) (by kernel_rfl) (by kernel_rfl) (fun _ _ _ h => h) (Or.inl ⟨by rfl, by intro w' hS';  go_simp <;> (first | omega | rfl | (rw [IntKind.wrap_i64]; omega))⟩) hSd ?_
      (try simp only [List.getElem_toArray, List.getElem_cons_succ, List.getElem_cons_zero, Act.put, List.setIfInBounds_toArray, List.set_cons_zero, List.set_cons_succ])
      refine wpAnyH_take (i := 21) (v := .pointer (some ⟨g, i1, none⟩)) rfl (by kernel_rfl) (by kernel_rfl) (by kernel_rfl) (fun _ _ _ h => h) (Or.inl ⟨by rfl, by intro w' hS';  go_simp <;> (first | omega | rfl | (rw [IntKind.wrap_i64]; omega))⟩) hSd ?_
      (try simp only [List.getElem_toArray, List.getElem_cons_succ, List.getElem_cons_zero, Act.put, List.setIfInBounds_toArray, List.set_cons_zero, List.set_cons_succ])
      refine wpAnyH_take (i := 22) (v := .int .i64 kj) rfl (by kernel_rfl) (by kernel_rfl) (by kernel_rfl) (fun _ _ _ h => h) (Or.inl ⟨by rfl, by intro w' hS'; have xp := HSP.out w' hS'; go_simp <;> (first | omega | rfl | (rw [IntKind.wrap_i64]; omega))⟩) hSd ?_
      (try simp only [List.getElem_toArray, List.getElem_cons_succ, List.getElem_cons_zero, Act.put, List.setIfInBounds_toArray, List.set_cons_zero, List.set_cons_succ])
      refine wpAnyH_take (i := 23) (v := .bool false) rfl (by kernel_rfl) (by kernel_rfl) (by kernel_rfl) (fun _ _ _ h => h) (Or.inl ⟨by rfl, by intro w' hS';  go_simp <;> (first | omega | rfl | (rw [IntKind.wrap_i64]; omega))⟩) hSd ?_
      (try simp only [List.getElem_toArray, List.getElem_cons_succ, List.getElem_cons_zero, Act.put, List.setIfInBounds_toArray, List.set_cons_zero, List.set_cons_succ])
      refine wpAnyH_take (i := 24) (v := .bool false) rfl (by kernel_rfl) (by kernel_rfl) (by kernel_rfl) (fun _ _ _ h => h) (Or.inl ⟨by rfl, by intro w' hS';  go_simp <;> (first | omega | rfl | (rw [IntKind.wrap_i64]; omega))⟩) hSd ?_
      (try simp only [List.getElem_toArray, List.getElem_cons_succ, List.getElem_cons_zero, Act.put, List.setIfInBounds_toArray, List.set_cons_zero, List.set_cons_succ])
      refine wpAnyH_take (i := 25) (v := .bool false) rfl (by kernel_rfl) (by kernel_rfl) (by kernel_rfl) (fun _ _ _ h => h) (Or.inl ⟨by rfl, by intro w' hS';  go_simp <;> (first | omega | rfl | (rw [IntKind.wrap_i64]; omega))⟩) hSd ?_
      (try simp only [List.getElem_toArray, List.getElem_cons_succ, List.getElem_cons_zero, Act.put, List.setIfInBounds_toArray, List.set_cons_zero, List.set_cons_succ])
      refine wpAnyH_done (by kernel_rfl) ?_ _
      have HM5 : Hid (Below w.heap.size w w5 ∧ (w5.heap[bk]? = some (.cells #[.slice al L.length cl, .slice a2 S.length cs, .slice ao O.length co] 27 (0, 0)) ∧ w5.heap[rk]? = some (.cells #[.slice none 0 0, .slice none 0 0, .slice none 0 0] 27 (0, 0)))) := by rw [HSS.out] at hSd; exact hSd
      clear hSd HSX HM HSS
      clear HSP
      go_wp2_with fail
      go_roundw
      case rel => exact ⟨i + 1, by have := HIN.out; omega, by go_num, HP1, HM5⟩
      case measure => simp [intFl]; have := HIN.out; omega
    · obtain rfl : i = n := by omega
      have HPP := hidF HP.out
      have hb3 : Below W0.heap.size W0 (W0.alloc (.cells #[] 88)) := (Below.refl _ _).alloc (Nat.le_refl _) _
      have HM3 : Hid (Below w.heap.size w (W0.alloc (.cells #[] 88)) ∧ ((W0.alloc (.cells #[] 88)).heap[bk]? = some (.cells #[.slice al L.length cl, .slice a2 S.length cs, .slice ao O.length co] 27 (0, 0)) ∧ (W0.alloc (.cells #[] 88)).heap[rk]? = some (.cells #[.slice none 0 0, .slice none 0 0, .slice none 0 0] 27 (0, 0)))) := ⟨blFl HM.out.1 hb3 HM.out.1.size, (hb3.block _ (Array.getElem?_eq_some_iff.1 HM.out.2.1).1).trans HM.out.2.1, (hb3.block _ (Array.getElem?_eq_some_iff.1 HM.out.2.2).1).trans HM.out.2.2⟩
      have HK3 : Hid ((W0.alloc (.cells #[] 88)).heap[W0.heap.size]? = some (.cells #[] 88 (0, 0))) := heap_alloc_new W0 _
      have c1 := cell_of_row _ _ 1 _ _ _ HM3.out.2.1
      have HV3 := hidF (HV0.out _ HM3.out.1).2.1
      have HBL : Hid (bk < W0.heap.size ∧ rk < W0.heap.size ∧ w.heap.size ≤ W0.heap.size) := ⟨(Array.getElem?_eq_some_iff.1 HM.out.2.1).1, (Array.getElem?_eq_some_iff.1 HM.out.2.2).1, HM.out.1.size⟩
      have hsl := HSL.out.len
      obtain ⟨i0, hi0, hz0, hz1, hz2⟩ := info_parts Try.infFl
      clear hb3 HM
      go_wp2_with (refine append_fls rfl _ _ 24 rfl W0.heap.size i0 _ Try.underlying24 hi0 hz0 hz1 hz2 rfl _ _ [] S rfl (own_made0 HK3.out) rfl HV3.out (by simp; omega) (by rw [World.size_alloc]; omega) ?_)
      intro v9 w9 hown hgrow
      have HM9 : Hid (Below w.heap.size w w9 ∧ (w9.heap[bk]? = some (.cells #[.slice al L.length cl, .slice a2 S.length cs, .slice ao O.length co] 27 (0, 0)) ∧ w9.heap[rk]? = some (.cells #[.slice none 0 0, .slice none 0 0, .slice none 0 0] 27 (0, 0)))) := ⟨HM3.out.1.grown hgrow HM3.out.1.size (fun j hj => by have e : W0.heap.size = j := Option.some.inj hj; have := HBL.out; omega), (hgrow.block _ (Array.getElem?_eq_some_iff.1 HM3.out.2.1).1 (fun c => by have e : W0.heap.size = bk := Option.some.inj c.symm; have := HBL.out; omega)).trans HM3.out.2.1, (hgrow.block _ (Array.getElem?_eq_some_iff.1 HM3.out.2.2).1 (fun c => by have e : W0.heap.size = rk := Option.some.inj c.symm; have := HBL.out; omega)).trans HM3.out.2.2⟩
      have HU9 : Hid (FlV w9 v9 (crL S O i K t 0)) := FlV.of_own (show w9.ownsRow W0.heap.size 88 2 v9 S.length (flC S) by simpa using hown)
      clear hown hgrow c1 HV3 HM3 HK3 HBL hsl hi0 hz0 hz1 hz2
      go_wp2_with fail
      clear i0
      go_loopw [9, 10] (fun x y wr => ∃ (j : Nat) (u : Value), j ≤ i ∧ x = u ∧ y = .int .i64 (j : Int) ∧ Hid (FlV wr u (crL S O i K t j)) ∧ Hid (Below w.heap.size w wr ∧ (wr.heap[bk]? = some (.cells #[.slice al L.length cl, .slice a2 S.length cs, .slice ao O.length co] 27 (0, 0)) ∧ wr.heap[rk]? = some (.cells #[.slice none 0 0, .slice none 0 0, .slice none 0 0] 27 (0, 0))))) (fun _ y _ => i - (intFl y).toNat)
      case atStart => exact ⟨0, _, by omega, rfl, rfl, HU9, HM9⟩
      case round =>
        clear HU9 HM9
        rename World => W1
        obtain ⟨j, u, hj, rfl, rfl, HU, HM⟩ := hrel
        have hcr := crL_ok (t := t) HD.out.safe (runs_ops HD.out.run) HPP.out j hj
        by_cases hlt : j < i
        · have hltJ : (j : Int) < (i : Int) := by omega
          have HIN := hidF hlt
          have hk0 := nxt_le HPP.out hlt
          have hk1 := HPP.out j hlt
          obtain ⟨pl, hpl⟩ : ∃ pl : Nat, K j = (pl : Int) := ⟨(K j).toNat, by omega⟩
          have hplt : pl < O.length := by omega
          have hplI : (pl : Int) < (O.length : Int) := by omega
          have hpl0 : ¬ (pl : Int) < 0 := by omega
          have x0 := HKC.out _ HM.out.1 j hlt
          rw [hpl] at x0
          have hplx := hpl
          obtain ⟨gq, cq, hao, hrow⟩ := HOR.out pl _ hplt HM.out.1
          injection hao with e1 e2 e3
          subst e1 e3
          clear e2
          obtain ⟨q0, hq⟩ : ∃ q, q = 4 * pl := ⟨_, rfl⟩
          have hiq : pl * 4 = q0 := by omega
          have y0 := hrow.c0 pl hplt
          have y1 := hrow.c1 pl hplt
          have y2 := hrow.c2 pl hplt
          have y3 := hrow.c3 pl hplt
          rw [← hq] at y0 y1 y2 y3
          have HOP : Hid (opP (dqF O pl)) := by rw [dqF_at hplt]; exact runs_ops HD.out.run _ (List.getElem_mem _)
          have HSZ := hidF (HOZ.out.at hplt)
          have hpre : preD O (nxt K j) + (dqF O pl).d.size ≤ preD O (pl + 1) := Nat.add_le_add_right (preD_mono O (by omega)) _
          have hpre2 := preD_mono O (show pl + 1 ≤ O.length by omega)
          have HTD : Hid (sumD (crL S O i K t j) + (dqF O pl).d.size ≤ 1400000) := by have := HTT.out; show _ ≤ _; omega
          have HMR : Hid (riseF (crL S O i K t j) ∧ (crL S O i K t j).length ≤ 1000000 ∧ ∀ f ∈ crL S O i K t j, nmOk f.a) := ⟨hcr.1, by have := plP_few HPP.out; have := HD.out.few; omega, hcr.2.1⟩
          have HNX : Hid (crL S O i K t (j + 1) = doX (crL S O i K t j) (crO O i K t j)) := rfl
          have HKN : Hid ((K j).toNat = pl) := by show _ = _; omega
          have HCO1 : Hid (j + 1 = i → crO O i K t j = torn t (dqF O pl)) := fun h => by unfold crO; rw [if_pos h, HKN.out]
          have HCO2 : Hid (¬ j + 1 = i → crO O i K t j = dqF O pl) := fun h => by unfold crO; rw [if_neg h, HKN.out]
          have HRW : Hid (∀ w', DqRow w' gq O.length (dqF O) → w'.cell? ⟨gq, q0, none⟩ = some (.int .i64 (dqF O pl).m) ∧ w'.cell? ⟨gq, q0 + 1, none⟩ = some (.string (dqF O pl).a) ∧ w'.cell? ⟨gq, q0 + 2, none⟩ = some (.string (dqF O pl).p) ∧ w'.cell? ⟨gq, q0 + 3, none⟩ = some (.string (dqF O pl).d)) := fun w' h => by rw [hq]; exact ⟨h.c0 pl hplt, h.c1 pl hplt, h.c2 pl hplt, h.c3 pl hplt⟩
          have c2 := cell_of_row _ _ 2 _ _ _ HM.out.2.1
          clear hrow hq hk0 hk1 hpl hcr hpre hpre2 HKN
          generalize dqF O pl = op at y0 y1 y2 y3 HSZ HCO1 HCO2 HTD HOP HRW
          obtain ⟨om, oa, oq, od⟩ := op
          simp only at y0 y1 y2 y3 HSZ HTD HRW
          generalize crO O i K t j = cro at HNX HCO1 HCO2
          have HL2 : Hid (crL S O i K t (j + 1) = crL S O i K t (j + 1)) := rfl
          generalize crL S O i K t j = L1 at HU HTD HMR HNX
          obtain ⟨SS, hSS⟩ : ∃ SS : World → Prop, SS = fun w' => Below w.heap.size w w' ∧ (w'.heap[bk]? = some (.cells #[.slice al L.length cl, .slice a2 S.length cs, .slice (some ⟨gq, 0, none⟩) O.length co] 27 (0, 0)) ∧ w'.heap[rk]? = some (.cells #[.slice none 0 0, .slice none 0 0, .slice none 0 0] 27 (0, 0))) := ⟨_, rfl⟩
          have hSd : SS W1.drew := by rw [hSS]; exact ⟨HM.out.1.drew, HM.out.2⟩
          have HSX : Hid (∀ w', SS w' → w'.cell? ⟨g, j, none⟩ = some (.int .i64 (pl : Int)) ∧ w'.cell? ⟨bk, 2, none⟩ = some (.slice (some ⟨gq, 0, none⟩) O.length co)) := fun w' hq => by
            rw [hSS] at hq
            exact ⟨by rw [← hplx]; exact HKC.out _ hq.1 j HIN.out, cell_of_row _ _ 2 _ _ _ hq.2.1⟩
          have HSR : Hid (∀ w', SS w' → w'.rangeAt gq q0 [.int .i64 om, .string oa, .string oq, .string od]) := fun w' hq => by
            rw [hSS] at hq
            obtain ⟨gx, cx, hax, hrw⟩ := HOR.out pl w' hplt hq.1
            cases hax
            obtain ⟨r0, r1, r2, r3⟩ := HRW.out w' hrw
            intro jj v hv
            match jj, hv with
            | 0, hv => cases hv; exact r0
            | 1, hv => cases hv; exact r1
            | 2, hv => cases hv; exact r2
            | 3, hv => cases hv; exact r3
          have HSI : Hid (∀ w' w'', SS w' → Below w'.heap.size w' w'' → SS w'') := fun w' w'' h1 hb => by
            rw [hSS] at h1 ⊢
            exact ⟨blFl h1.1 hb h1.1.size, (hb.block _ (Array.getElem?_eq_some_iff.1 h1.2.1).1).trans h1.2.1, (hb.block _ (Array.getElem?_eq_some_iff.1 h1.2.2).1).trans h1.2.2⟩
          have HSS := hidF hSS
          have HDW : Hid (Below W1.heap.size W1 W1.drew) := (Below.refl _ _).drew
          clear hSS hplx x0 c2 y0 y1 y2 y3
          go_wp2_with fail
          refine wp_region_held (S := SS) (by kernel_rfl) ?_
          change wpAnyH _ _ _ _ _ _ _ _ (World.drew _)
          generalize hX2 : W1.drew = X0 at hSd HDW ⊢
          clear hX2
          refine wpAnyH_take (i := 0) (v := .pointer (some ⟨bk, 2, none⟩)) rfl (by kernel_rfl) (by kernel_rfl) (by kernel_rfl) (fun _ _ _ h => h) (Or.inl ⟨by rfl, by intro w' hS';  go_simp <;> (first | omega | rfl | (rw [IntKind.wrap_i64]; omega))⟩) hSd ?_
          (try simp only [List.getElem_toArray, List.getElem_cons_succ, List.getElem_cons_zero, Act.put, List.setIfInBounds_toArray, List.set_cons_zero, List.set_cons_succ])
          refine wpAnyH_take (i := 1) (v := .slice (some ⟨gq, 0, none⟩) O.length co) rfl (by kernel_rfl) (by kernel_rfl) (by kernel_rfl) (fun _ _ _ h => h) (Or.inl ⟨by rfl, by intro w' hS'; obtain ⟨xa, xb⟩ := HSX.out w' hS'; go_simp <;> (first | omega | rfl | (rw [IntKind.wrap_i64]; omega))⟩) hSd ?_
          (try simp only [List.getElem_toArray, List.getElem_cons_succ, List.getElem_cons_zero, Act.put, List.setIfInBounds_toArray, List.set_cons_zero, List.set_cons_succ])
          refine wpAnyH_take (i := 2) (v := .slice (some ⟨g, 0, none⟩) i c) rfl (by kernel_rfl) (by kernel_rfl) (by kernel_rfl) (fun _ _ _ h => h) (Or.inl ⟨by rfl, by intro w' hS';  go_simp <;> (first | omega | rfl | (rw [IntKind.wrap_i64]; omega))⟩) hSd ?_
          (try simp only [List.getElem_toArray, List.getElem_cons_succ, List.getElem_cons_zero, Act.put, List.setIfInBounds_toArray, List.set_cons_zero, List.set_cons_succ])
          refine wpAnyH_take (i := 3) (v := .int .i64 (j : Int)) rfl (by kernel_rfl) (by kernel_rfl) (by kernel_rfl) (fun _ _ _ h => h) (Or.inl ⟨by rfl, by intro w' hS';  go_simp <;> (first | omega | rfl | (rw [IntKind.wrap_i64]; omega))⟩) hSd ?_
          (try simp only [List.getElem_toArray, List.getElem_cons_succ, List.getElem_cons_zero, Act.put, List.setIfInBounds_toArray, List.set_cons_zero, List.set_cons_succ])
          refine wpAnyH_take (i := 4) (v := .pointer (some ⟨g, j, none⟩)) rfl (by kernel_rfl) (by kernel_rfl) (by kernel_rfl) (fun _ _ _ h => h) (Or.inl ⟨by rfl, by intro w' hS';  go_simp <;> (first | omega | rfl | (rw [IntKind.wrap_i64]; omega))⟩) hSd ?_
          (try simp only [List.getElem_toArray, List.getElem_cons_succ, List.getElem_cons_zero, Act.put, List.setIfInBounds_toArray, List.set_cons_zero, List.set_cons_succ])
          refine wpAnyH_take (i := 5) (v := .int .i64 (pl : Int)) rfl (by kernel_rfl) (by kernel_rfl) (by kernel_rfl) (fun _ _ _ h => h) (Or.inl ⟨by rfl, by intro w' hS'; obtain ⟨xa, xb⟩ := HSX.out w' hS'; go_simp <;> (first | omega | rfl | (rw [IntKind.wrap_i64]; omega))⟩) hSd ?_
          (try simp only [List.getElem_toArray, List.getElem_cons_succ, List.getElem_cons_zero, Act.put, List.setIfInBounds_toArray, List.set_cons_zero, List.set_cons_succ])
          refine wpAnyH_take (i := 6) (v := .pointer (some ⟨gq, q0, none⟩)) rfl (by kernel_rfl) (by kernel_rfl) (by kernel_rfl) (fun _ _ _ h => h) (Or.inl ⟨by rfl, by intro w' hS';  go_simp <;> (first | omega | rfl | (rw [IntKind.wrap_i64]; omega))⟩) hSd ?_
          (try simp only [List.getElem_toArray, List.getElem_cons_succ, List.getElem_cons_zero, Act.put, List.setIfInBounds_toArray, List.set_cons_zero, List.set_cons_succ])
          refine wpAnyH_take (i := 7) (v := .agg #[.int .i64 om, .string oa, .string oq, .string od]) rfl (by kernel_rfl) (by kernel_rfl) (by kernel_rfl) (fun _ _ _ h => h) (yieldsIf_load_mid (by rfl) 36 (.tmp 69) rfl gq q0 rfl [.int .i64 om, .string oa, .string oq, .string od] _ HSR.out Try.underlying36 rfl (by kernel_rfl)) hSd ?_
          (try simp only [List.getElem_toArray, List.getElem_cons_succ, List.getElem_cons_zero, Act.put, List.setIfInBounds_toArray, List.set_cons_zero, List.set_cons_succ])
          refine held_stepS (i := 8) (by kernel_rfl) rfl (by rfl) ?_
          go_simp
          have hb8 : Below X0.heap.size X0 (X0.alloc (.cells #[.int .i64 0, .string ⟨#[]⟩, .string ⟨#[]⟩, .string ⟨#[]⟩] 36)) := (Below.refl _ _).alloc (Nat.le_refl _) _
          refine ⟨HSI.out _ _ hSd hb8, ?_⟩
          (try simp only [List.getElem_toArray, List.getElem_cons_succ, List.getElem_cons_zero, Act.put, List.setIfInBounds_toArray, List.set_cons_zero, List.set_cons_succ])
          refine held_stepS (i := 9) (by kernel_rfl) rfl (by rfl) ?_
          go_simp
          have hbx : Below X0.heap.size X0 (X0.alloc (.cells #[.int .i64 om, .string oa, .string oq, .string od] 36)) := (Below.refl _ _).alloc (Nat.le_refl _) _
          refine ⟨HSI.out _ _ hSd hbx, ?_⟩
          (try simp only [List.getElem_toArray, List.getElem_cons_succ, List.getElem_cons_zero, Act.put, List.setIfInBounds_toArray, List.set_cons_zero, List.set_cons_succ])
          refine wpAnyH_done (by kernel_rfl) ?_ _
          have HMX : Hid (Below w.heap.size w X0 ∧ (X0.heap[bk]? = some (.cells #[.slice al L.length cl, .slice a2 S.length cs, .slice (some ⟨gq, 0, none⟩) O.length co] 27 (0, 0)) ∧ X0.heap[rk]? = some (.cells #[.slice none 0 0, .slice none 0 0, .slice none 0 0] 27 (0, 0)))) := by rw [HSS.out] at hSd; exact hSd
          have HU0 : Hid (FlV X0 u9 L1) := HU.out.below HDW.out
          have HLE : Hid (FlLe L1) := ⟨by have := HMR.out.2.1; omega, fun f hf => ⟨by have := (HMR.out.2.2 f hf).2; omega, by have := sumD_mem hf; have := HTD.out; omega⟩⟩
          have HFS : Hid (∀ dd : ByteArray, dd.size ≤ od.size → (∀ f ∈ L1, f.d.size + dd.size ≤ 1500000) ∧ dd.size ≤ 1500000) := fun dd hd => ⟨fun f hf => by have := sumD_mem hf; have := HTD.out; omega, by have := HTD.out; omega⟩
          have HRI : Hid (riseF L1) := HMR.out.1
          clear hSd hb8 hbx HSX HSR HSI HSS HM HDW HU HTD HMR HRW
          by_cases hlast : j + 1 = i
          rotate_left
          · have hcc := HCO2.out hlast
            have hl3 : ¬ (j : Int) = (i : Int) - 1 := by omega
            clear hlast HCO1 HCO2 HOP
            go_wp2_with fail
            have HDC := hidF (HDO.out L1 u9 om oa oq od (X0.alloc (.cells #[.int .i64 om, .string oa, .string oq, .string od] 36)) HLE.out HRI.out (HFS.out od (Nat.le_refl _)).1 (HFS.out od (Nat.le_refl _)).2 (HU0.out.below ((Below.refl _ _).alloc (Nat.le_refl _) _)))
            refine HDC.out.mono ?_
            rintro e w6 ⟨v6, M6, b6, rfl, hf6, hb6⟩
            have hM : M6 = doX L1 ⟨om, oa, oq, od⟩ := by
              unfold doX
              rcases hb6 with ⟨_, h⟩ | ⟨_, h, hm⟩
              · rw [h]; rfl
              · rw [h, hm]; rfl
            have HU6 : Hid (FlV w6 v6 (crL S O i K t (j + 1))) := by rw [HNX.out, hcc, ← hM]; exact hf6.v
            have hb06 : Below X0.heap.size X0 w6 := blFl ((Below.refl _ _).alloc (Nat.le_refl _) _) hf6.bel (by rw [World.size_alloc]; omega)
            have HM6 : Hid (Below w.heap.size w w6 ∧ (w6.heap[bk]? = some (.cells #[.slice al L.length cl, .slice a2 S.length cs, .slice (some ⟨gq, 0, none⟩) O.length co] 27 (0, 0)) ∧ w6.heap[rk]? = some (.cells #[.slice none 0 0, .slice none 0 0, .slice none 0 0] 27 (0, 0)))) := ⟨blFl HMX.out.1 hb06 HMX.out.1.size, (hb06.block _ (Array.getElem?_eq_some_iff.1 HMX.out.2.1).1).trans HMX.out.2.1, (hb06.block _ (Array.getElem?_eq_some_iff.1 HMX.out.2.2).1).trans HMX.out.2.2⟩
            clear hf6 hb6 hM hb06 HDC hcc
            go_wp2_with fail
            go_roundw
            case rel => exact ⟨j + 1, _, by have := HIN.out; omega, rfl, by go_num, HU6, HM6⟩
            case measure => simp [intFl]; have := HIN.out; omega
          have hcc0 := HCO1.out hlast
          have hl1 : (i : Int) - 1 = (j : Int) := by omega
          by_cases hm1 : om = 1
          rotate_left
          · have hcc : cro = ⟨om, oa, oq, od⟩ := hcc0.trans (torn_id HOP.out (fun h => hm1 h.1) HT0.out)
            clear hlast HCO1 HCO2 HOP hcc0
            go_wp2_with fail
            have HDC := hidF (HDO.out L1 u9 om oa oq od (X0.alloc (.cells #[.int .i64 om, .string oa, .string oq, .string od] 36)) HLE.out HRI.out (HFS.out od (Nat.le_refl _)).1 (HFS.out od (Nat.le_refl _)).2 (HU0.out.below ((Below.refl _ _).alloc (Nat.le_refl _) _)))
            refine HDC.out.mono ?_
            rintro e w6 ⟨v6, M6, b6, rfl, hf6, hb6⟩
            have hM : M6 = doX L1 ⟨om, oa, oq, od⟩ := by
              unfold doX
              rcases hb6 with ⟨_, h⟩ | ⟨_, h, hm⟩
              · rw [h]; rfl
              · rw [h, hm]; rfl
            have HU6 : Hid (FlV w6 v6 (crL S O i K t (j + 1))) := by rw [HNX.out, hcc, ← hM]; exact hf6.v
            have hb06 : Below X0.heap.size X0 w6 := blFl ((Below.refl _ _).alloc (Nat.le_refl _) _) hf6.bel (by rw [World.size_alloc]; omega)
            have HM6 : Hid (Below w.heap.size w w6 ∧ (w6.heap[bk]? = some (.cells #[.slice al L.length cl, .slice a2 S.length cs, .slice (some ⟨gq, 0, none⟩) O.length co] 27 (0, 0)) ∧ w6.heap[rk]? = some (.cells #[.slice none 0 0, .slice none 0 0, .slice none 0 0] 27 (0, 0)))) := ⟨blFl HMX.out.1 hb06 HMX.out.1.size, (hb06.block _ (Array.getElem?_eq_some_iff.1 HMX.out.2.1).1).trans HMX.out.2.1, (hb06.block _ (Array.getElem?_eq_some_iff.1 HMX.out.2.2).1).trans HMX.out.2.2⟩
            clear hf6 hb6 hM hb06 HDC hcc
            go_wp2_with fail
            go_roundw
            case rel => exact ⟨j + 1, _, by have := HIN.out; omega, rfl, by go_num, HU6, HM6⟩
            case measure => simp [intFl]; have := HIN.out; omega
          subst hm1
          by_cases htd : t < (od.size : Int)
          rotate_left
          · have hcc : cro = ⟨1, oa, oq, od⟩ := hcc0.trans (torn_id HOP.out (fun h => htd h.2) HT0.out)
            clear hlast HCO1 HCO2 HOP hcc0
            go_wp2_with fail
            have HDC := hidF (HDO.out L1 u9 1 oa oq od (X0.alloc (.cells #[.int .i64 1, .string oa, .string oq, .string od] 36)) HLE.out HRI.out (HFS.out od (Nat.le_refl _)).1 (HFS.out od (Nat.le_refl _)).2 (HU0.out.below ((Below.refl _ _).alloc (Nat.le_refl _) _)))
            refine HDC.out.mono ?_
            rintro e w6 ⟨v6, M6, b6, rfl, hf6, hb6⟩
            have hM : M6 = doX L1 ⟨1, oa, oq, od⟩ := by
              unfold doX
              rcases hb6 with ⟨_, h⟩ | ⟨_, h, hm⟩
              · rw [h]; rfl
              · rw [h, hm]; rfl
            have HU6 : Hid (FlV w6 v6 (crL S O i K t (j + 1))) := by rw [HNX.out, hcc, ← hM]; exact hf6.v
            have hb06 : Below X0.heap.size X0 w6 := blFl ((Below.refl _ _).alloc (Nat.le_refl _) _) hf6.bel (by rw [World.size_alloc]; omega)
            have HM6 : Hid (Below w.heap.size w w6 ∧ (w6.heap[bk]? = some (.cells #[.slice al L.length cl, .slice a2 S.length cs, .slice (some ⟨gq, 0, none⟩) O.length co] 27 (0, 0)) ∧ w6.heap[rk]? = some (.cells #[.slice none 0 0, .slice none 0 0, .slice none 0 0] 27 (0, 0)))) := ⟨blFl HMX.out.1 hb06 HMX.out.1.size, (hb06.block _ (Array.getElem?_eq_some_iff.1 HMX.out.2.1).1).trans HMX.out.2.1, (hb06.block _ (Array.getElem?_eq_some_iff.1 HMX.out.2.2).1).trans HMX.out.2.2⟩
            clear hf6 hb6 hM hb06 HDC hcc
            go_wp2_with fail
            go_roundw
            case rel => exact ⟨j + 1, _, by have := HIN.out; omega, rfl, by go_num, HU6, HM6⟩
            case measure => simp [intFl]; have := HIN.out; omega
          obtain ⟨dd, hdd⟩ : ∃ dd, dd = od.extract 0 t.toNat := ⟨_, rfl⟩
          have hcc : cro = ⟨1, oa, oq, dd⟩ := by rw [hcc0, torn_cut htd HT0.out, hdd]
          have hds : dd.size ≤ od.size := by rw [hdd, extract_size _ _ (by omega)]; omega
          have hdt : dd.size ≤ 1500000 := (HFS.out dd hds).2
          have HDD := hidF hdd
          have ht0 := HT0.out
          clear hlast HCO1 HCO2 HOP hcc0 hdd
          go_wp2_with fail
          rw [← HDD.out]
          have HDC := hidF (HDO.out L1 u9 1 oa oq dd (X0.alloc (.cells #[.int .i64 1, .string oa, .string oq, .string dd] 36)) HLE.out HRI.out (HFS.out dd hds).1 (HFS.out dd hds).2 (HU0.out.below ((Below.refl _ _).alloc (Nat.le_refl _) _)))
          refine HDC.out.mono ?_
          rintro e w6 ⟨v6, M6, b6, rfl, hf6, hb6⟩
          have hM : M6 = doX L1 ⟨1, oa, oq, dd⟩ := by
            unfold doX
            rcases hb6 with ⟨_, h⟩ | ⟨_, h, hm⟩
            · rw [h]; rfl
            · rw [h, hm]; rfl
          have HU6 : Hid (FlV w6 v6 (crL S O i K t (j + 1))) := by rw [HNX.out, hcc, ← hM]; exact hf6.v
          have hb06 : Below X0.heap.size X0 w6 := blFl ((Below.refl _ _).alloc (Nat.le_refl _) _) hf6.bel (by rw [World.size_alloc]; omega)
          have HM6 : Hid (Below w.heap.size w w6 ∧ (w6.heap[bk]? = some (.cells #[.slice al L.length cl, .slice a2 S.length cs, .slice (some ⟨gq, 0, none⟩) O.length co] 27 (0, 0)) ∧ w6.heap[rk]? = some (.cells #[.slice none 0 0, .slice none 0 0, .slice none 0 0] 27 (0, 0)))) := ⟨blFl HMX.out.1 hb06 HMX.out.1.size, (hb06.block _ (Array.getElem?_eq_some_iff.1 HMX.out.2.1).1).trans HMX.out.2.1, (hb06.block _ (Array.getElem?_eq_some_iff.1 HMX.out.2.2).1).trans HMX.out.2.2⟩
          clear hf6 hb6 hM hb06 HDC hcc
          go_wp2_with fail
          go_roundw
          case rel => exact ⟨j + 1, _, by have := HIN.out; omega, rfl, by go_num, HU6, HM6⟩
          case measure => simp [intFl]; have := HIN.out; omega
        · obtain rfl : j = i := by omega
          have HNR : Hid (riseF (crL S O j K t j) ∧ (∀ f ∈ crL S O j K t j, nmOk f.a)) := ⟨hcr.1, hcr.2.1⟩
          have HLE : Hid (FlLe (crL S O j K t j)) := ⟨by have := plP_few HPP.out; have := HD.out.few; omega, fun f hf => ⟨by have := (hcr.2.1 f hf).2; omega, by have := sumD_mem hf; have := hcr.2.2.2; have := HTT.out; have := preD_mono O (nxt_c HPP.out j (Nat.le_refl _)); omega⟩⟩
          have HX5 := hidF HM.out.2
          have HB5 := hidF HM.out.1
          have HFL := hidF (HFM.out _ u9 W1 HLE.out HU.out)
          clear hcr
          go_wp2_with fail
          refine HFL.out.mono ?_
          rintro e w5 ⟨rfl, hb5⟩
          have HX6 : Hid (w5.heap[bk]? = some (.cells #[.slice al L.length cl, .slice a2 S.length cs, .slice ao O.length co] 27 (0, 0)) ∧ w5.heap[rk]? = some (.cells #[.slice none 0 0, .slice none 0 0, .slice none 0 0] 27 (0, 0))) := ⟨(hb5.block _ (Array.getElem?_eq_some_iff.1 HX5.out.1).1).trans HX5.out.1, (hb5.block _ (Array.getElem?_eq_some_iff.1 HX5.out.2).1).trans HX5.out.2⟩
          have HB6 := hidF (blFl HB5.out hb5 HB5.out.size)
          have HU5 := hidF (HU.out.below hb5)
          clear hb5 HX5 HB5 HU HFL HM
          by_cases hft : filesP (crL S O j K t j)
          rotate_left
          · have HE : Hid (crA L S O j K t = ([], false)) := crA_no fun h => hft ⟨h.2.2.2.1, HNR.out.2, HNR.out.1, h.2.2.2.2⟩
            rw [flB_no hft]
            have hz4 := HX6.out.2
            have hb7 := HB6.out
            have HB9 : Hid (Below w.heap.size w (set3b w5 rk (.slice none 0 0) (.slice none 0 0) (.slice none 0 0))) := ((hb7.setCell (p := ⟨rk, 0, none⟩) HRK.out _).setCell (p := ⟨rk, 1, none⟩) HRK.out _).setCell (p := ⟨rk, 2, none⟩) HRK.out _
            have HR9 : Hid ((set3b w5 rk (.slice none 0 0) (.slice none 0 0) (.slice none 0 0)).heap[rk]? = some (.cells #[(.slice none 0 0), (.slice none 0 0), (.slice none 0 0)] 27 (0, 0))) := heap_setCell_same _ _ _ _ _ _ (heap_setCell_same _ _ _ _ _ _ (heap_setCell_same _ _ _ _ _ _ hz4))
            have z0 := cell_of_row _ _ 0 _ _ _ hz4
            have z1 := cell_of_row _ _ 1 _ _ _ hz4
            have z2 := cell_of_row _ _ 2 _ _ _ hz4
            have f0 := frozen_of_row _ _ 0 _ _ hz4
            have f1 := frozen_of_row _ _ 1 _ _ hz4
            have f2 := frozen_of_row _ _ 2 _ _ hz4
            clear hz4 hb7 hft
            go_wp2_with fail
            exact bodyPost_ret (results_cell_t rfl _ _ rk 27 #[(.slice none 0 0), (.slice none 0 0), (.slice none 0 0)] (0, 0) _ rfl HR9.out Try.underlying27 rfl (by kernel_rfl)) rfl ⟨by rw [HE.out]; exact ⟨_, _, _, rfl, Or.inl ⟨rfl, rfl⟩, Or.inl ⟨rfl, rfl⟩, Or.inl ⟨rfl, rfl⟩⟩, HB9.out⟩
          have HE : Hid (crA L S O j K t = (crL S O j K t j, true)) := crA_yes ⟨HD.out, HPP.out, HT0.out, hft.len, hft.sum⟩
          rw [flB_yes hft]
          have hml : (crL S O j K t j).length ≤ 60 := hft.len
          clear hft HNR HLE
          generalize crL S O j K t j = M at HE HU5 hml
          obtain ⟨a5, k5, rfl⟩ := HU5.out.slice
          have hb7 : Below w5.heap.size w5 (w5.alloc (.cells #[] 88)) := (Below.refl _ _).alloc (Nat.le_refl _) _
          have HX7 : Hid ((w5.alloc (.cells #[] 88)).heap[bk]? = some (.cells #[.slice al L.length cl, .slice a2 S.length cs, .slice ao O.length co] 27 (0, 0)) ∧ (w5.alloc (.cells #[] 88)).heap[rk]? = some (.cells #[.slice none 0 0, .slice none 0 0, .slice none 0 0] 27 (0, 0))) := ⟨(hb7.block _ (Array.getElem?_eq_some_iff.1 HX6.out.1).1).trans HX6.out.1, (hb7.block _ (Array.getElem?_eq_some_iff.1 HX6.out.2).1).trans HX6.out.2⟩
          have HB7 := hidF (blFl HB6.out hb7 HB6.out.size)
          have HU7 := hidF (HU5.out.below hb7)
          have HK7 : Hid ((w5.alloc (.cells #[] 88)).heap[w5.heap.size]? = some (.cells #[] 88 (0, 0))) := heap_alloc_new w5 _
          have HBL : Hid (bk < w5.heap.size ∧ rk < w5.heap.size ∧ w.heap.size ≤ w5.heap.size) := ⟨(Array.getElem?_eq_some_iff.1 HX6.out.1).1, (Array.getElem?_eq_some_iff.1 HX6.out.2).1, HB6.out.size⟩
          obtain ⟨i0, hi0, hz0, hz1, hz2⟩ := info_parts Try.infFl
          clear hb7 HX6 HB6 HU5
          go_wp2_with (refine append_fls rfl _ _ 24 rfl w5.heap.size i0 _ Try.underlying24 hi0 hz0 hz1 hz2 rfl _ _ [] M rfl (own_made0 HK7.out) rfl HU7.out (by simp; omega) (by rw [World.size_alloc]; omega) ?_)
          intro v9 w9 hown hgrow
          have hb7 : Below w.heap.size w w9 := HB7.out.grown hgrow HB7.out.size (fun j hj => by have e : w5.heap.size = j := Option.some.inj hj; have := HBL.out; omega)
          have hz4 := (hgrow.block _ (Array.getElem?_eq_some_iff.1 HX7.out.2).1 (fun c => by have e : w5.heap.size = rk := Option.some.inj c.symm; have := HBL.out; omega)).trans HX7.out.2
          have hv9 : FlV w9 v9 M := FlV.of_own (show w9.ownsRow w5.heap.size 88 2 v9 M.length (flC M) by simpa using hown)
          have hu9 := HU7.out.grown0 HK7.out hgrow
          obtain ⟨x2, y2, rfl⟩ := hv9.slice
          have HB9 : Hid (Below w.heap.size w (set3b w9 rk (.slice a5 M.length k5) (.slice x2 M.length y2) (.slice none 0 0))) := ((hb7.setCell (p := ⟨rk, 0, none⟩) HRK.out _).setCell (p := ⟨rk, 1, none⟩) HRK.out _).setCell (p := ⟨rk, 2, none⟩) HRK.out _
          have HR9 : Hid ((set3b w9 rk (.slice a5 M.length k5) (.slice x2 M.length y2) (.slice none 0 0)).heap[rk]? = some (.cells #[.slice a5 M.length k5, .slice x2 M.length y2, .slice none 0 0] 27 (0, 0))) := heap_setCell_same _ _ _ _ _ _ (heap_setCell_same _ _ _ _ _ _ (heap_setCell_same _ _ _ _ _ _ hz4))
          have HO9 : Hid (FlV (set3b w9 rk (.slice a5 M.length k5) (.slice x2 M.length y2) (.slice none 0 0)) (.slice a5 M.length k5) M ∧ FlV (set3b w9 rk (.slice a5 M.length k5) (.slice x2 M.length y2) (.slice none 0 0)) (.slice x2 M.length y2) M) := ⟨hu9.set3b hz4, hv9.set3b hz4⟩
          have z0 := cell_of_row _ _ 0 _ _ _ hz4
          have z1 := cell_of_row _ _ 1 _ _ _ hz4
          have z2 := cell_of_row _ _ 2 _ _ _ hz4
          have f0 := frozen_of_row _ _ 0 _ _ hz4
          have f1 := frozen_of_row _ _ 1 _ _ hz4
          have f2 := frozen_of_row _ _ 2 _ _ hz4
          clear hz4 hb7 hown hgrow hu9 hv9 HX7 HB7 HU7 HK7 HBL hi0 hz0 hz1 hz2 hml
          go_wp2_with fail
          exact bodyPost_ret (results_cell_t rfl _ _ rk 27 #[.slice a5 M.length k5, .slice x2 M.length y2, .slice none 0 0] (0, 0) _ rfl HR9.out Try.underlying27 rfl (by kernel_rfl)) rfl ⟨by rw [HE.out]; exact ⟨_, _, _, rfl, HO9.out.1, HO9.out.2, Or.inl ⟨rfl, rfl⟩⟩, HB9.out⟩
end Go.Proofs.Ytanlggglbpibfaa

/-!   Crash: the code's. -/
namespace Go.Proofs.Ytanlggglbpibfaa
open Go.RowKit
set_option linter.unusedVariables false
set_option linter.unusedSimpArgs false
/-- what a crash leaves: a disk that is all its own, and whether -/
def CrO (B : Nat) (A : List FlI × Bool) (e : Ending) (w' : World) : Prop := ∃ a b c, e = .returned (.tuple #[.agg #[a, b, c], .bool A.2]) ∧ (w'.ownsRow B 88 2 a A.1.length (flC A.1) ∧ w'.ownsRow B 88 2 b A.1.length (flC A.1) ∧ w'.ownsRow B 36 4 c ([] : List DqI).length (dqC [])) ∧ (∀ k, a.ownBlock = some k → b.ownBlock ≠ some k ∧ c.ownBlock ≠ some k) ∧ (∀ k, b.ownBlock = some k → c.ownBlock ≠ some k)
theorem doX_G (L : List FlI) (o : DqI) : doX L o = doG L o := rfl
set_option maxRecDepth 100000 in
set_option maxHeartbeats 2000000 in
theorem crash15_any (vL vS vO : Value) (L S : List FlI) (O : List DqI) (g c n : Nat) (K : Nat → Int) (t : Int) (w : World) (hn : n ≤ 1048576) (hL : FlLe L) (hS : FlLe S) (hO : DqLe O) (hT : preD O O.length ≤ 1100000) (hg : RwI w g n K) (h1 : FlV w vL L) (h2 : FlV w vS S) (h3 : DqV w vO O) :
    Calls Try.prog 16 #[.agg #[vL, vS, vO], .slice (some ⟨g, 0, none⟩) n c, .int .i64 t] w fun e w' => CrO w.heap.size (crA L S O n K t) e w' ∧ Below w.heap.size w w' := by
  have HDK : Hid (∀ w', Below w.heap.size w w' → Calls Try.prog 14 #[.agg #[vL, vS, vO]] w' fun e w'' => e = .returned (.bool (dkB L S O)) ∧ Below w'.heap.size w' w'') := fun w' hb => disk15_any vL vS vO L S O w' hL hS hO (h1.below hb) (h2.below hb) (h3.below hb)
  have HPL : Hid (∀ w', Below w.heap.size w w' → Calls Try.prog 46 #[.slice (some ⟨g, 0, none⟩) n c, .int .i64 (O.length : Int)] w' fun e w'' => e = .returned (.bool (plB n K O.length)) ∧ Below w'.heap.size w' w'') := fun w' hb => places15_any g c n O.length K w' hn (hg.below hb)
  have HSET : Hid (∀ w', Below w.heap.size w w' → Calls Try.prog 47 #[vS] w' fun e w'' => SetAns w' S e w'' ∧ Below w'.heap.size w' w'') := fun w' hb => setOf_any vS S w' hS (h2.below hb)
  have HDE : Hid (∀ (m : Int) (a p d : ByteArray) (w : World), Calls Try.prog 48 #[.agg #[.int .i64 m, .string a, .string p, .string d]] w fun e w' => DeAns ⟨m, a, p, d⟩ e ∧ Below w.heap.size w w') := deed_any
  have HDO : Hid (∀ {lo p mb : Nat} {M : List FlI} {V : ByteArray → Value} (o : DqI) (w : World), FsW w lo p mb M V (sumD M) → opP o → o.p.size ≤ 1500000 → o.d.size ≤ 2000000 → M.length ≤ 1000000 → sumD M ≤ 50000000 → Calls Try.prog 49 #[.pointer (some ⟨p, 0, none⟩), dV o] w fun e w' => e = .returned (.tuple #[]) ∧ (∃ V', FsW w' lo p mb (doX M o) V' (sumD (doX M o))) ∧ BF lo p w w') := fun o w h ho hp hd hl hs => do15_any o w h ho hp hd hl hs
  have HFI : Hid (∀ {lo p mb k : Nat} {M : List FlI} {V : ByteArray → Value} (w : World), FsW w lo p mb M V k → Calls Try.prog 50 #[.pointer (some ⟨p, 0, none⟩)] w fun e w' => e = .returned (.bool (decide (M.length ≤ 60 ∧ k ≤ 200000))) ∧ w' = w) := fun w h => fits15_any w h
  have HLI : Hid (∀ {lo p mb k : Nat} {M : List FlI} {V : ByteArray → Value} (w : World), FsW w lo p mb M V k → M.length ≤ 1000000 → (∀ f ∈ M, f.a.size ≤ 1500000) → Calls Try.prog 51 #[.pointer (some ⟨p, 0, none⟩)] w (FlAns w M)) := fun w h hl hs => list15_any w h hl hs
  have HCD : Hid (∀ (w' : World) (u : Value) (M : List FlI), FlLe M → FlV w' u M → Calls Try.prog 52 #[.agg #[u, u, .slice none 0 0]] w' fun e w'' => DkO w'.heap.size w' e w'' M M [] ∧ Below w'.heap.size w' w'') := fun w' u M hM hu => cdisk15_any u u _ M M [] w' hM hM ⟨by simp, fun o ho => by cases ho⟩ hu hu (Or.inl ⟨rfl, rfl⟩)
  obtain ⟨al, cl, rfl⟩ := h1.slice
  obtain ⟨a2, cs, rfl⟩ := h2.slice
  obtain ⟨ao, co, rfl⟩ := h3.slice
  have HKC : Hid (∀ w', Below w.heap.size w w' → ∀ i, i < n → w'.cell? ⟨g, i, none⟩ = some (.int .i64 (K i))) := fun w' hb i hi => (hg.below hb).cell hi
  have HOR : Hid (∀ i w', i < O.length → Below w.heap.size w w' → ∃ g c, (Value.slice ao O.length co) = .slice (some ⟨g, 0, none⟩) O.length c ∧ DqRow w' g O.length (dqF O)) := fun i w' hi hb => by
    rcases h3 with ⟨_, rfl⟩ | ⟨g, c, e, hr⟩
    · simp at hi
    · exact ⟨g, c, e, hr.below hb hr.lt⟩
  have HOZ := hidF hO
  have HTT := hidF hT
  have HX1 : Hid (((w.alloc (.cells #[.slice al L.length cl, .slice a2 S.length cs, .slice ao O.length co] 27)).alloc (.cells #[.slice none 0 0, .slice none 0 0, .slice none 0 0] 27)).heap[w.heap.size]? = some (.cells #[.slice al L.length cl, .slice a2 S.length cs, .slice ao O.length co] 27 (0, 0)) ∧ ((w.alloc (.cells #[.slice al L.length cl, .slice a2 S.length cs, .slice ao O.length co] 27)).alloc (.cells #[.slice none 0 0, .slice none 0 0, .slice none 0 0] 27)).heap[w.heap.size + 1]? = some (.cells #[.slice none 0 0, .slice none 0 0, .slice none 0 0] 27 (0, 0))) := by
    refine ⟨?_, ?_⟩
    · rw [Below.heap_alloc _ _ _ (by simp), heap_alloc_new]
    · have := heap_alloc_new (w.alloc (.cells #[.slice al L.length cl, .slice a2 S.length cs, .slice ao O.length co] 27)) (.cells #[.slice none 0 0, .slice none 0 0, .slice none 0 0] 27)
      rw [World.size_alloc] at this
      exact this
  have HB1 : Hid (Below w.heap.size w ((w.alloc (.cells #[.slice al L.length cl, .slice a2 S.length cs, .slice ao O.length co] 27)).alloc (.cells #[.slice none 0 0, .slice none 0 0, .slice none 0 0] 27))) := ((Below.refl _ _).alloc (Nat.le_refl _) _).alloc (by simp) _
  have hO9 := hO.len
  clear hL hS hO hT hg h1 h2 h3
  go_enter Try.func16, Try.ntmps16
  go_wp2_with fail
  have hdk := HDK.out _ HB1.out
  generalize (w.alloc (.cells #[.slice al L.length cl, .slice a2 S.length cs, .slice ao O.length co] 27)).alloc (.cells #[.slice none 0 0, .slice none 0 0, .slice none 0 0] 27) = w1 at HB1 HX1 hdk ⊢
  obtain ⟨bk, hbk⟩ : ∃ bk, bk = w.heap.size := ⟨_, rfl⟩
  obtain ⟨rk, hrk⟩ : ∃ rk, rk = w.heap.size + 1 := ⟨_, rfl⟩
  have HRK : Hid (w.heap.size ≤ rk) := by show _ ≤ _; omega
  rw [← hrk, ← hbk] at HX1 ⊢
  clear hbk hrk
  refine hdk.mono ?_
  rintro e w2 ⟨rfl, hb2⟩
  have HX2 : Hid (w2.heap[bk]? = some (.cells #[.slice al L.length cl, .slice a2 S.length cs, .slice ao O.length co] 27 (0, 0)) ∧ w2.heap[rk]? = some (.cells #[.slice none 0 0, .slice none 0 0, .slice none 0 0] 27 (0, 0))) := ⟨(hb2.block _ (Array.getElem?_eq_some_iff.1 HX1.out.1).1).trans HX1.out.1, (hb2.block _ (Array.getElem?_eq_some_iff.1 HX1.out.2).1).trans HX1.out.2⟩
  have HB2 := hidF (blFl HB1.out hb2 HB1.out.size)
  clear hb2 HX1 HB1 hdk HDK
  by_cases hD : diskP L S O
  rotate_left
  · have HE : Hid (crA L S O n K t = ([], false)) := crA_no fun h => hD h.1
    rw [dkB_no hD]
    have hz4 := HX2.out.2
    have hb7 := HB2.out
    have HB9 : Hid (Below w.heap.size w (set3b w2 rk (.slice none 0 0) (.slice none 0 0) (.slice none 0 0))) := ((hb7.setCell (p := ⟨rk, 0, none⟩) HRK.out _).setCell (p := ⟨rk, 1, none⟩) HRK.out _).setCell (p := ⟨rk, 2, none⟩) HRK.out _
    have HR9 : Hid ((set3b w2 rk (.slice none 0 0) (.slice none 0 0) (.slice none 0 0)).heap[rk]? = some (.cells #[(.slice none 0 0), (.slice none 0 0), (.slice none 0 0)] 27 (0, 0))) := heap_setCell_same _ _ _ _ _ _ (heap_setCell_same _ _ _ _ _ _ (heap_setCell_same _ _ _ _ _ _ hz4))
    have z0 := cell_of_row _ _ 0 _ _ _ hz4
    have z1 := cell_of_row _ _ 1 _ _ _ hz4
    have z2 := cell_of_row _ _ 2 _ _ _ hz4
    have f0 := frozen_of_row _ _ 0 _ _ hz4
    have f1 := frozen_of_row _ _ 1 _ _ hz4
    have f2 := frozen_of_row _ _ 2 _ _ hz4
    clear hz4 hb7 hD
    go_wp2_with fail
    exact bodyPost_ret (results_cell_t rfl _ _ rk 27 #[(.slice none 0 0), (.slice none 0 0), (.slice none 0 0)] (0, 0) _ rfl HR9.out Try.underlying27 rfl (by kernel_rfl)) rfl ⟨by rw [HE.out]; exact ⟨_, _, _, rfl, ⟨World.ownsRow_nil _ _ _ _, World.ownsRow_nil _ _ _ _, World.ownsRow_nil _ _ _ _⟩, fun k hk => (by cases hk), fun k hk => (by cases hk)⟩, HB9.out⟩
  have HD := hidF hD
  rw [dkB_yes hD]
  have c2 := cell_of_row _ _ 2 _ _ _ HX2.out.1
  have hpl2 := HPL.out _ HB2.out
  clear hD
  go_wp2_with fail
  refine hpl2.mono ?_
  rintro e w3 ⟨rfl, hb3⟩
  have HX3 : Hid (w3.heap[bk]? = some (.cells #[.slice al L.length cl, .slice a2 S.length cs, .slice ao O.length co] 27 (0, 0)) ∧ w3.heap[rk]? = some (.cells #[.slice none 0 0, .slice none 0 0, .slice none 0 0] 27 (0, 0))) := ⟨(hb3.block _ (Array.getElem?_eq_some_iff.1 HX2.out.1).1).trans HX2.out.1, (hb3.block _ (Array.getElem?_eq_some_iff.1 HX2.out.2).1).trans HX2.out.2⟩
  have HB3 := hidF (blFl HB2.out hb3 HB2.out.size)
  clear hb3 HX2 HB2 hpl2 HPL c2
  by_cases hP : plP n K O.length
  rotate_left
  · have HE : Hid (crA L S O n K t = ([], false)) := crA_no fun h => hP h.2.1
    rw [plB_no hP]
    have hz4 := HX3.out.2
    have hb7 := HB3.out
    have HB9 : Hid (Below w.heap.size w (set3b w3 rk (.slice none 0 0) (.slice none 0 0) (.slice none 0 0))) := ((hb7.setCell (p := ⟨rk, 0, none⟩) HRK.out _).setCell (p := ⟨rk, 1, none⟩) HRK.out _).setCell (p := ⟨rk, 2, none⟩) HRK.out _
    have HR9 : Hid ((set3b w3 rk (.slice none 0 0) (.slice none 0 0) (.slice none 0 0)).heap[rk]? = some (.cells #[(.slice none 0 0), (.slice none 0 0), (.slice none 0 0)] 27 (0, 0))) := heap_setCell_same _ _ _ _ _ _ (heap_setCell_same _ _ _ _ _ _ (heap_setCell_same _ _ _ _ _ _ hz4))
    have z0 := cell_of_row _ _ 0 _ _ _ hz4
    have z1 := cell_of_row _ _ 1 _ _ _ hz4
    have z2 := cell_of_row _ _ 2 _ _ _ hz4
    have f0 := frozen_of_row _ _ 0 _ _ hz4
    have f1 := frozen_of_row _ _ 1 _ _ hz4
    have f2 := frozen_of_row _ _ 2 _ _ hz4
    clear hz4 hb7 hP
    go_wp2_with fail
    exact bodyPost_ret (results_cell_t rfl _ _ rk 27 #[(.slice none 0 0), (.slice none 0 0), (.slice none 0 0)] (0, 0) _ rfl HR9.out Try.underlying27 rfl (by kernel_rfl)) rfl ⟨by rw [HE.out]; exact ⟨_, _, _, rfl, ⟨World.ownsRow_nil _ _ _ _, World.ownsRow_nil _ _ _ _, World.ownsRow_nil _ _ _ _⟩, fun k hk => (by cases hk), fun k hk => (by cases hk)⟩, HB9.out⟩
  have HP := hidF hP
  rw [plB_yes hP]
  clear hP
  by_cases ht : t < 0
  · have HE : Hid (crA L S O n K t = ([], false)) := crA_no fun h => absurd h.2.2.1 (by omega)
    have hz4 := HX3.out.2
    have hb7 := HB3.out
    have HB9 : Hid (Below w.heap.size w (set3b w3 rk (.slice none 0 0) (.slice none 0 0) (.slice none 0 0))) := ((hb7.setCell (p := ⟨rk, 0, none⟩) HRK.out _).setCell (p := ⟨rk, 1, none⟩) HRK.out _).setCell (p := ⟨rk, 2, none⟩) HRK.out _
    have HR9 : Hid ((set3b w3 rk (.slice none 0 0) (.slice none 0 0) (.slice none 0 0)).heap[rk]? = some (.cells #[(.slice none 0 0), (.slice none 0 0), (.slice none 0 0)] 27 (0, 0))) := heap_setCell_same _ _ _ _ _ _ (heap_setCell_same _ _ _ _ _ _ (heap_setCell_same _ _ _ _ _ _ hz4))
    have z0 := cell_of_row _ _ 0 _ _ _ hz4
    have z1 := cell_of_row _ _ 1 _ _ _ hz4
    have z2 := cell_of_row _ _ 2 _ _ _ hz4
    have f0 := frozen_of_row _ _ 0 _ _ hz4
    have f1 := frozen_of_row _ _ 1 _ _ hz4
    have f2 := frozen_of_row _ _ 2 _ _ hz4
    clear hz4 hb7 
    go_wp2_with fail
    exact bodyPost_ret (results_cell_t rfl _ _ rk 27 #[(.slice none 0 0), (.slice none 0 0), (.slice none 0 0)] (0, 0) _ rfl HR9.out Try.underlying27 rfl (by kernel_rfl)) rfl ⟨by rw [HE.out]; exact ⟨_, _, _, rfl, ⟨World.ownsRow_nil _ _ _ _, World.ownsRow_nil _ _ _ _, World.ownsRow_nil _ _ _ _⟩, fun k hk => (by cases hk), fun k hk => (by cases hk)⟩, HB9.out⟩
  have HT0 : Hid (0 ≤ t) := by show _ ≤ _; omega
  have c1 := cell_of_row _ _ 1 _ _ _ HX3.out.1
  have hse := HSET.out _ HB3.out
  go_wp2_with fail
  refine hse.mono ?_
  rintro e w4 ⟨hans, hb4⟩
  rcases hans with ⟨_, p, mb, V, rfl, hF⟩ | ⟨hno, _⟩
  rotate_left
  · exact absurd HD.out.safe hno
  have HX4 : Hid (w4.heap[bk]? = some (.cells #[.slice al L.length cl, .slice a2 S.length cs, .slice ao O.length co] 27 (0, 0)) ∧ w4.heap[rk]? = some (.cells #[.slice none 0 0, .slice none 0 0, .slice none 0 0] 27 (0, 0))) := ⟨(hb4.block _ (Array.getElem?_eq_some_iff.1 HX3.out.1).1).trans HX3.out.1, (hb4.block _ (Array.getElem?_eq_some_iff.1 HX3.out.2).1).trans HX3.out.2⟩
  have HB4 := hidF (blFl HB3.out hb4 HB3.out.size)
  obtain ⟨lo, hlo⟩ : ∃ lo, lo = w3.heap.size := ⟨_, rfl⟩
  have HLO : Hid (w.heap.size ≤ lo ∧ bk < lo ∧ rk < lo) := by rw [hlo]; exact ⟨HB3.out.size, (Array.getElem?_eq_some_iff.1 HX3.out.1).1, (Array.getElem?_eq_some_iff.1 HX3.out.2).1⟩
  rw [← hlo] at hF
  have HF0 : Hid (∃ V, FsW w4 lo p mb (crL S O n K t 0) V (sumD (crL S O n K t 0))) := ⟨V, hF⟩
  have HM0 : Hid (Below w.heap.size w w4 ∧ (w4.heap[bk]? = some (.cells #[.slice al L.length cl, .slice a2 S.length cs, .slice ao O.length co] 27 (0, 0)) ∧ w4.heap[rk]? = some (.cells #[.slice none 0 0, .slice none 0 0, .slice none 0 0] 27 (0, 0)))) := ⟨HB4.out, HX4.out⟩
  clear hb4 hF hlo hse HSET c1 HX3 HB3 HB4 HX4
  go_wp2_with fail
  go_loopw [40] (fun y wr => ∃ i : Nat, i ≤ n ∧ y = .int .i64 (i : Int) ∧ Hid (∃ V, FsW wr lo p mb (crL S O n K t i) V (sumD (crL S O n K t i))) ∧ Hid (Below w.heap.size w wr ∧ (wr.heap[bk]? = some (.cells #[.slice al L.length cl, .slice a2 S.length cs, .slice ao O.length co] 27 (0, 0)) ∧ wr.heap[rk]? = some (.cells #[.slice none 0 0, .slice none 0 0, .slice none 0 0] 27 (0, 0))))) (fun y _ => n - (intFl y).toNat)
  case atStart => exact ⟨0, by omega, rfl, HF0, HM0⟩
  case round =>
    clear HF0 HM0
    rename World => W0
    obtain ⟨i, hi, rfl, HF, HM⟩ := hrel
    by_cases hlt : i < n
    · have hltI : (i : Int) < (n : Int) := by omega
      have HIN := hidF hlt
      have hk0 := nxt_le HP.out hlt
      have hk1 := HP.out i hlt
      obtain ⟨pl, hpl⟩ : ∃ pl : Nat, K i = (pl : Int) := ⟨(K i).toNat, by omega⟩
      have hplt : pl < O.length := by omega
      have hplI : (pl : Int) < (O.length : Int) := by omega
      have hpl0 : ¬ (pl : Int) < 0 := by omega
      have x0 := HKC.out _ HM.out.1 i hlt
      rw [hpl] at x0
      obtain ⟨gq, cq, hao, hrow⟩ := HOR.out pl _ hplt HM.out.1
      injection hao with e1 e2 e3
      subst e1 e3
      clear e2
      obtain ⟨q0, hq⟩ : ∃ q, q = 4 * pl := ⟨_, rfl⟩
      have hiq : pl * 4 = q0 := by omega
      have y0 := hrow.c0 pl hplt
      have y1 := hrow.c1 pl hplt
      have y2 := hrow.c2 pl hplt
      have y3 := hrow.c3 pl hplt
      rw [← hq] at y0 y1 y2 y3
      have HOP : Hid (opP (crO O n K t i)) := crO_op (runs_ops HD.out.run) HP.out hlt
      have HNX : Hid (crL S O n K t (i + 1) = doX (crL S O n K t i) (crO O n K t i)) := rfl
      have HSZ := hidF (HOZ.out.at hplt)
      have hcr := crL_ok (t := t) HD.out.safe (runs_ops HD.out.run) HP.out i (by omega)
      have hfw := plP_few HP.out
      have hpre := preD_mono O (nxt_c HP.out i (by omega))
      have HCR : Hid ((crL S O n K t i).length ≤ 1000000 ∧ sumD (crL S O n K t i) ≤ 50000000) := by have := HTT.out; have := HD.out.few; exact ⟨by omega, by omega⟩
      have HKN : Hid ((K i).toNat = pl) := by show _ = _; omega
      have c2 := cell_of_row _ _ 2 _ _ _ HM.out.2.1
      clear hrow hq hk0 hk1 hpl hcr hfw hpre
      have HCO1 : Hid (i + 1 = n → crO O n K t i = torn t (dqF O pl)) := fun h => by unfold crO; rw [if_pos h, HKN.out]
      have HCO2 : Hid (¬ i + 1 = n → crO O n K t i = dqF O pl) := fun h => by unfold crO; rw [if_neg h, HKN.out]
      clear HKN
      generalize dqF O pl = op at y0 y1 y2 y3 HSZ HCO1 HCO2
      obtain ⟨om, oa, oq, od⟩ := op
      simp only at y0 y1 y2 y3 HSZ
      generalize crO O n K t i = cro at HOP HNX HCO1 HCO2
      by_cases hlast : i + 1 = n
      · have hcc0 := HCO1.out hlast
        have ht0 := HT0.out
        have hl1 : (n : Int) - 1 = (i : Int) := by omega
        obtain ⟨dd, hdd⟩ : ∃ dd, dd = od.extract 0 (min t (od.size : Int)).toNat := ⟨_, rfl⟩
        have hcc : cro = ⟨om, oa, oq, dd⟩ := by
          rw [hcc0, hdd]
          show (⟨om, oa, oq, od.extract 0 (min t.toNat od.size)⟩ : DqI) = _
          rw [show (min t (od.size : Int)).toNat = min t.toNat od.size by omega]
        have HZ2 : Hid (oq.size ≤ 1500000 ∧ dd.size ≤ 2000000) := by
          have h1 := torn_size t ⟨om, oa, oq, od⟩
          rw [← hcc0, hcc] at h1
          have h2 : dd.size ≤ od.size := h1
          have := HSZ.out
          exact ⟨by omega, by omega⟩
        have HBA : Hid (Below W0.heap.size W0 (W0.alloc (.cells #[.int .i64 om, .string oa, .string oq, .string dd] 36))) := (Below.refl _ _).alloc (Nat.le_refl _) _
        have HDE3 := hidF (HDE.out om oa oq dd (W0.alloc (.cells #[.int .i64 om, .string oa, .string oq, .string dd] 36)))
        rw [hcc] at HOP HNX
        have HOP2 : Hid (opP ⟨om, oa, oq, dd⟩) := HOP.out
        have HNX2 : Hid (crL S O n K t (i + 1) = doX (crL S O n K t i) ⟨om, oa, oq, dd⟩) := HNX.out
        clear hcc hcc0 HCO1 HCO2 HOP HNX HSZ
        rw [hdd] at HBA HDE3
        have HDD := hidF hdd
        clear hdd
        go_wp2_with fail
        rw [← HDD.out] at HBA HDE3 ⊢
        refine HDE3.out.mono ?_
        rintro e w5 ⟨hde, hb5⟩
        rcases hde with ⟨_, rfl⟩ | ⟨hno, _⟩
        rotate_left
        · exact absurd HOP2.out hno
        have hb05 : Below W0.heap.size W0 w5 := blFl HBA.out hb5 HBA.out.size
        have HM5 : Hid (Below w.heap.size w w5 ∧ (w5.heap[bk]? = some (.cells #[.slice al L.length cl, .slice a2 S.length cs, .slice (some ⟨gq, 0, none⟩) O.length co] 27 (0, 0)) ∧ w5.heap[rk]? = some (.cells #[.slice none 0 0, .slice none 0 0, .slice none 0 0] 27 (0, 0)))) := ⟨blFl HM.out.1 hb05 HM.out.1.size, (hb05.block _ (Array.getElem?_eq_some_iff.1 HM.out.2.1).1).trans HM.out.2.1, (hb05.block _ (Array.getElem?_eq_some_iff.1 HM.out.2.2).1).trans HM.out.2.2⟩
        obtain ⟨V, hV⟩ := HF.out
        have HDO5 := hidF (HDO.out _ w5 (hV.under hb05) HOP2.out HZ2.out.1 HZ2.out.2 HCR.out.1 HCR.out.2)
        clear hl1 hb5 hb05 hV y0 y1 y2 y3 x0 c2 HDE3 HM
        go_wp2_with fail
        refine HDO5.out.mono ?_
        rintro e w6 ⟨rfl, hV6, hbf⟩
        have HM6 : Hid (Below w.heap.size w w6 ∧ (w6.heap[bk]? = some (.cells #[.slice al L.length cl, .slice a2 S.length cs, .slice (some ⟨gq, 0, none⟩) O.length co] 27 (0, 0)) ∧ w6.heap[rk]? = some (.cells #[.slice none 0 0, .slice none 0 0, .slice none 0 0] 27 (0, 0)))) := ⟨HM5.out.1.trans (hbf.bel.mono HLO.out.1), (hbf.bel.block _ HLO.out.2.1).trans HM5.out.2.1, (hbf.bel.block _ HLO.out.2.2).trans HM5.out.2.2⟩
        have HV6 := hidF hV6
        rw [← HNX2.out] at HV6
        clear hV6 hbf HDO5 HM5
        go_wp2_with fail
        go_roundw
        case rel => exact ⟨i + 1, by have := HIN.out; omega, by go_num, HV6, HM6⟩
        case measure => simp [intFl]; have := HIN.out; omega
      · have hcc := HCO2.out hlast
        have hl3 : ¬ (i : Int) = (n : Int) - 1 := by omega
        have HZ2 : Hid (oq.size ≤ 1500000 ∧ od.size ≤ 2000000) := by
          have := HSZ.out
          exact ⟨by omega, by omega⟩
        have HBA : Hid (Below W0.heap.size W0 (W0.alloc (.cells #[.int .i64 om, .string oa, .string oq, .string od] 36))) := (Below.refl _ _).alloc (Nat.le_refl _) _
        have HDE3 := hidF (HDE.out om oa oq od (W0.alloc (.cells #[.int .i64 om, .string oa, .string oq, .string od] 36)))
        rw [hcc] at HOP HNX
        have HOP2 : Hid (opP ⟨om, oa, oq, od⟩) := HOP.out
        have HNX2 : Hid (crL S O n K t (i + 1) = doX (crL S O n K t i) ⟨om, oa, oq, od⟩) := HNX.out
        clear hcc HCO1 HCO2 HOP HNX HSZ
        go_wp2_with fail
        refine HDE3.out.mono ?_
        rintro e w5 ⟨hde, hb5⟩
        rcases hde with ⟨_, rfl⟩ | ⟨hno, _⟩
        rotate_left
        · exact absurd HOP2.out hno
        have hb05 : Below W0.heap.size W0 w5 := blFl HBA.out hb5 HBA.out.size
        have HM5 : Hid (Below w.heap.size w w5 ∧ (w5.heap[bk]? = some (.cells #[.slice al L.length cl, .slice a2 S.length cs, .slice (some ⟨gq, 0, none⟩) O.length co] 27 (0, 0)) ∧ w5.heap[rk]? = some (.cells #[.slice none 0 0, .slice none 0 0, .slice none 0 0] 27 (0, 0)))) := ⟨blFl HM.out.1 hb05 HM.out.1.size, (hb05.block _ (Array.getElem?_eq_some_iff.1 HM.out.2.1).1).trans HM.out.2.1, (hb05.block _ (Array.getElem?_eq_some_iff.1 HM.out.2.2).1).trans HM.out.2.2⟩
        obtain ⟨V, hV⟩ := HF.out
        have HDO5 := hidF (HDO.out _ w5 (hV.under hb05) HOP2.out HZ2.out.1 HZ2.out.2 HCR.out.1 HCR.out.2)
        clear hl3 hb5 hb05 hV y0 y1 y2 y3 x0 c2 HDE3 HM
        go_wp2_with fail
        refine HDO5.out.mono ?_
        rintro e w6 ⟨rfl, hV6, hbf⟩
        have HM6 : Hid (Below w.heap.size w w6 ∧ (w6.heap[bk]? = some (.cells #[.slice al L.length cl, .slice a2 S.length cs, .slice (some ⟨gq, 0, none⟩) O.length co] 27 (0, 0)) ∧ w6.heap[rk]? = some (.cells #[.slice none 0 0, .slice none 0 0, .slice none 0 0] 27 (0, 0)))) := ⟨HM5.out.1.trans (hbf.bel.mono HLO.out.1), (hbf.bel.block _ HLO.out.2.1).trans HM5.out.2.1, (hbf.bel.block _ HLO.out.2.2).trans HM5.out.2.2⟩
        have HV6 := hidF hV6
        rw [← HNX2.out] at HV6
        clear hV6 hbf HDO5 HM5
        go_wp2_with fail
        go_roundw
        case rel => exact ⟨i + 1, by have := HIN.out; omega, by go_num, HV6, HM6⟩
        case measure => simp [intFl]; have := HIN.out; omega
    · have hie : i = n := by omega
      have hltI : ¬ (i : Int) < (n : Int) := by omega
      subst hie
      obtain ⟨V, hV⟩ := HF.out
      have hcr := crL_ok (t := t) HD.out.safe (runs_ops HD.out.run) HP.out i (Nat.le_refl _)
      have hfw := plP_few HP.out
      have hpre := preD_mono O (nxt_c HP.out i (Nat.le_refl _))
      have HCR : Hid ((crL S O i K t i).length ≤ 1000000 ∧ ∀ f ∈ crL S O i K t i, f.a.size ≤ 1500000) := by have := HD.out.few; exact ⟨by omega, fun f hf => by have := (hcr.2.1 f hf).2; omega⟩
      have HNR : Hid (riseF (crL S O i K t i) ∧ ∀ f ∈ crL S O i K t i, nmOk f.a) := ⟨hcr.1, hcr.2.1⟩
      have HFT := hidF (HFI.out W0 hV)
      have HVV := hidF hV
      clear hcr hfw hpre hV
      go_wp2_with fail
      refine HFT.out.mono ?_
      rintro e w5 ⟨rfl, rfl⟩
      have HX5 := hidF HM.out.2
      have HB5 := hidF HM.out.1
      by_cases hft : (crL S O i K t i).length ≤ 60 ∧ sumD (crL S O i K t i) ≤ 200000
      rotate_left
      · have HE : Hid (crA L S O i K t = ([], false)) := crA_no fun h => hft h.2.2.2
        rw [decide_eq_false hft]
        have hz4 := HX5.out.2
        have hb7 := HB5.out
        have HB9 : Hid (Below w.heap.size w (set3b w5 rk (.slice none 0 0) (.slice none 0 0) (.slice none 0 0))) := ((hb7.setCell (p := ⟨rk, 0, none⟩) HRK.out _).setCell (p := ⟨rk, 1, none⟩) HRK.out _).setCell (p := ⟨rk, 2, none⟩) HRK.out _
        have HR9 : Hid ((set3b w5 rk (.slice none 0 0) (.slice none 0 0) (.slice none 0 0)).heap[rk]? = some (.cells #[(.slice none 0 0), (.slice none 0 0), (.slice none 0 0)] 27 (0, 0))) := heap_setCell_same _ _ _ _ _ _ (heap_setCell_same _ _ _ _ _ _ (heap_setCell_same _ _ _ _ _ _ hz4))
        have z0 := cell_of_row _ _ 0 _ _ _ hz4
        have z1 := cell_of_row _ _ 1 _ _ _ hz4
        have z2 := cell_of_row _ _ 2 _ _ _ hz4
        have f0 := frozen_of_row _ _ 0 _ _ hz4
        have f1 := frozen_of_row _ _ 1 _ _ hz4
        have f2 := frozen_of_row _ _ 2 _ _ hz4
        clear hz4 hb7 hft
        go_wp2_with fail
        exact bodyPost_ret (results_cell_t rfl _ _ rk 27 #[(.slice none 0 0), (.slice none 0 0), (.slice none 0 0)] (0, 0) _ rfl HR9.out Try.underlying27 rfl (by kernel_rfl)) rfl ⟨by rw [HE.out]; exact ⟨_, _, _, rfl, ⟨World.ownsRow_nil _ _ _ _, World.ownsRow_nil _ _ _ _, World.ownsRow_nil _ _ _ _⟩, fun k hk => (by cases hk), fun k hk => (by cases hk)⟩, HB9.out⟩
      have HE : Hid (crA L S O i K t = (crL S O i K t i, true)) := crA_yes ⟨HD.out, HP.out, HT0.out, hft⟩
      have HFP : Hid (FlLe (crL S O i K t i)) := (show filesP (crL S O i K t i) from ⟨hft.1, HNR.out.2, HNR.out.1, hft.2⟩).le
      rw [decide_eq_true hft]
      have HL5 := hidF (HLI.out w5 HVV.out HCR.out.1 HCR.out.2)
      clear hft HFT HVV HNR HF
      generalize crL S O i K t i = M at HE HFP HL5
      go_wp2_with fail
      refine HL5.out.mono ?_
      rintro e w6 ⟨u6, rfl, hu6⟩
      have hb6 := hu6.bel
      have hv6 := hu6.v
      have HX6 : Hid (w6.heap[bk]? = some (.cells #[.slice al L.length cl, .slice a2 S.length cs, .slice ao O.length co] 27 (0, 0)) ∧ w6.heap[rk]? = some (.cells #[.slice none 0 0, .slice none 0 0, .slice none 0 0] 27 (0, 0))) := ⟨(hb6.block _ (Array.getElem?_eq_some_iff.1 HX5.out.1).1).trans HX5.out.1, (hb6.block _ (Array.getElem?_eq_some_iff.1 HX5.out.2).1).trans HX5.out.2⟩
      have HB6 := hidF (blFl HB5.out hb6 HB5.out.size)
      have HC6 := hidF (HCD.out w6 u6 M HFP.out hv6)
      obtain ⟨a6, k6, rfl⟩ := hv6.slice
      clear hb6 hu6 hv6 HX5 HB5 HL5
      go_wp2_with fail
      refine HC6.out.mono ?_
      rintro e w7 ⟨⟨u1, u2, u3, rfl, t1, t2, t3, t4, t5⟩, hb7x⟩
      obtain ⟨x1, y1, rfl⟩ := ownF_slice t1
      obtain ⟨x2, y2, rfl⟩ := ownF_slice t2
      obtain ⟨x3, y3, rfl⟩ := ownQ_slice t3
      have hz4 := (hb7x.block _ (Array.getElem?_eq_some_iff.1 HX6.out.2).1).trans HX6.out.2
      have hb7 := blFl HB6.out hb7x HB6.out.size
      have HLO6 := HB6.out.size
      have HB9 : Hid (Below w.heap.size w (set3b w7 rk (.slice x1 M.length y1) (.slice x2 M.length y2) (.slice x3 ([] : List DqI).length y3))) := ((hb7.setCell (p := ⟨rk, 0, none⟩) HRK.out _).setCell (p := ⟨rk, 1, none⟩) HRK.out _).setCell (p := ⟨rk, 2, none⟩) HRK.out _
      have HR9 : Hid ((set3b w7 rk (.slice x1 M.length y1) (.slice x2 M.length y2) (.slice x3 ([] : List DqI).length y3)).heap[rk]? = some (.cells #[.slice x1 M.length y1, .slice x2 M.length y2, .slice x3 ([] : List DqI).length y3] 27 (0, 0))) := heap_setCell_same _ _ _ _ _ _ (heap_setCell_same _ _ _ _ _ _ (heap_setCell_same _ _ _ _ _ _ hz4))
      have HO9 : Hid (CrO w.heap.size (M, true) (.returned (.tuple #[.agg #[.slice x1 M.length y1, .slice x2 M.length y2, .slice x3 ([] : List DqI).length y3], .bool true])) (set3b w7 rk (.slice x1 M.length y1) (.slice x2 M.length y2) (.slice x3 ([] : List DqI).length y3))) := ⟨_, _, _, rfl, ⟨own_set3b (ownF_base t1 HLO6) hz4 (by decide), own_set3b (ownF_base t2 HLO6) hz4 (by decide), own_set3b (ownF_base t3 HLO6) hz4 (by decide)⟩, t4, t5⟩
      have z0 := cell_of_row _ _ 0 _ _ _ hz4
      have z1 := cell_of_row _ _ 1 _ _ _ hz4
      have z2 := cell_of_row _ _ 2 _ _ _ hz4
      have f0 := frozen_of_row _ _ 0 _ _ hz4
      have f1 := frozen_of_row _ _ 1 _ _ hz4
      have f2 := frozen_of_row _ _ 2 _ _ hz4
      clear hz4 hb7 hb7x HLO6 t1 t2 t3 t4 t5 HC6 HX6 HB6
      go_wp2_with fail
      exact bodyPost_ret (results_cell_t rfl _ _ rk 27 #[.slice x1 M.length y1, .slice x2 M.length y2, .slice x3 ([] : List DqI).length y3] (0, 0) _ rfl HR9.out Try.underlying27 rfl (by kernel_rfl)) rfl ⟨by rw [HE.out]; exact HO9.out, HB9.out⟩
end Go.Proofs.Ytanlggglbpibfaa
