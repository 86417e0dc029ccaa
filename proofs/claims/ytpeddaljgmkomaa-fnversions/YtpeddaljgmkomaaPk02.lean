/-
  Several texts of this seat as one: EqPc, RdPc, Conv.
-/
import Derived.Test.YtpeddaljgmkomaaPk01
import Derived.WalkKit
import Derived.ProofKit
import Derived.OpenShut
import Derived.ShutString
import Derived.ChangeOld
import Derived.Below
import Derived.Lib.SmallJoins
import Derived.Deep.Slices
import Derived.Deep.Strs
import Derived.Test.YtpeddaljgmkomaaRows
import Derived.WalkSpells
import Derived.Laws.IdiomStrings
import Derived.Laws.BytesArg
import Derived.Lib.UnsafeStr
import Derived.Lib.Strings
import Derived.Deep.RegionLaw

/-!   Two lists made of the same pieces are alike: the law's own way to ask. -/
namespace Go.Proofs.Ytpeddaljgmkomaa
open Go.RowKit
set_option linter.unusedVariables false
set_option linter.unusedSimpArgs false
set_option maxRecDepth 100000 in
theorem eqPcS_zero (a b : Option Addr) (c d : Nat) (w : World) :
    Calls Try.prog 72 #[.slice a 0 c, .slice b 0 d] w fun e w' => e = .returned (.bool true) ∧ w' = w := by
  go_enter Try.func72, Try.ntmps72
  go_wp2_with fail
  refine wp_loop_rounds 1 ?_
  rw [rounds_succ]
  go_wp2_with fail
  go_ret
  exact ⟨rfl, rfl⟩
set_option maxRecDepth 100000 in
set_option maxHeartbeats 1000000 in
theorem eqPcS_rows (g h c d n : Nat) (xs : List Value) (w : World) (hn : n ≤ 1048576) (hx : ∀ i, i < n → ∃ (k b : Int) (d : ByteArray), xs[3 * i]? = some (.int .i64 k) ∧ xs[3 * i + 1]? = some (.int .i64 b) ∧ xs[3 * i + 2]? = some (.string d))
    (hg : ∀ j v, xs[j]? = some v → w.cell? ⟨g, j, none⟩ = some v) (hh : ∀ j v, xs[j]? = some v → w.cell? ⟨h, j, none⟩ = some v) (hgl : g < w.heap.size) (hhl : h < w.heap.size) :
    Calls Try.prog 72 #[.slice (some ⟨g, 0, none⟩) n c, .slice (some ⟨h, 0, none⟩) n d] w fun e w' => e = .returned (.bool true) ∧ Below w.heap.size w w' := by
  have HX : Hid _ := hx
  have HG : Hid _ := hg
  have HH : Hid _ := hh
  have HGL : Hid (g < w.heap.size ∧ h < w.heap.size) := ⟨hgl, hhl⟩
  have HE : Hid (∀ (k b : Int) (d : ByteArray) w, _) := fun k b d w => eqPc_same k b d w
  clear hx hg hh hgl hhl
  go_enter Try.func72, Try.ntmps72
  go_wp2_with fail
  go_loopw [5] (fun v wr => ∃ i : Nat, i ≤ n ∧ v = .int .i64 (i : Int) ∧ Below w.heap.size w wr) (fun v _ => n - (intN v).toNat)
  case atStart => exact ⟨0, by omega, rfl, Below.refl _ _⟩
  case round =>
    obtain ⟨i, hi, rfl, hb⟩ := hrel
    by_cases hlt : i < n
    · have hltI : (i : Int) < (n : Int) := by omega
      obtain ⟨k, b, dd, x0, x1, x2⟩ := HX.out i hlt
      obtain ⟨q, hq⟩ : ∃ q, q = 3 * i := ⟨_, rfl⟩
      rw [← hq] at x0 x1 x2
      obtain ⟨S, hSS⟩ : ∃ S : World → Prop, S = fun w' => Below w.heap.size w w' := ⟨_, rfl⟩
      have hSd : S wr.drew := by rw [hSS]; exact hb.drew
      have hrow : ∀ (t : Nat), (∀ j v, xs[j]? = some v → w.cell? ⟨t, j, none⟩ = some v) → t < w.heap.size → ∀ w', S w' → w'.rangeAt t q [.int .i64 k, .int .i64 b, .string dd] := fun t ht htl w' hw' j v hv => by
        rw [hSS] at hw'
        rw [Below.cell hw' (p := ⟨t, q + j, none⟩) htl]
        apply ht
        match j, hv with
        | 0, hv => simp at hv; subst hv; exact x0
        | 1, hv => simp at hv; subst hv; exact x1
        | 2, hv => simp at hv; subst hv; exact x2
      have HRG : Hid (∀ w', S w' → w'.rangeAt g q [.int .i64 k, .int .i64 b, .string dd]) := hrow g HG.out HGL.out.1
      have HRH : Hid (∀ w', S w' → w'.rangeAt h q [.int .i64 k, .int .i64 b, .string dd]) := hrow h HH.out HGL.out.2
      have HEE : Hid (∀ w, Calls Try.prog 96 #[pcV k b dd, pcV k b dd] w fun e w' => e = .returned (.bool true) ∧ Below w.heap.size w w') := fun w => HE.out k b dd w
      have HS : Hid _ := hSS
      have HQ : Hid (q = 3 * i) := hq
      have hiq : i * 3 = q := by omega
      unfold pcV at HEE
      clear hSS hrow x0 x1 x2 hq
      go_wp2_with fail
      refine wp_region_held (S := S) (by kernel_rfl) ?_
      change wpAnyH _ _ _ _ _ _ _ _ (World.drew _)
      refine wpAnyH_take (i := 0) (v := .slice (some ⟨g, 0, none⟩) n c) rfl (by kernel_rfl) (by kernel_rfl) (by kernel_rfl) (fun _ _ _ h => h) (Or.inl ⟨by rfl, by intro w' hS'; go_simp <;> (first | omega | (rw [IntKind.wrap_i64]; omega) | (rw [IntKind.wrap_u64]; omega) | (rw [IntKind.wrap_u32]; omega) | (rw [Int.tmod_eq_emod_of_nonneg (by omega)]))⟩) hSd ?_
      (try simp only [List.getElem_toArray, List.getElem_cons_succ, List.getElem_cons_zero, Act.put, List.setIfInBounds_toArray, List.set_cons_zero, List.set_cons_succ])
      refine wpAnyH_take (i := 1) (v := .int .i64 (i : Int)) rfl (by kernel_rfl) (by kernel_rfl) (by kernel_rfl) (fun _ _ _ h => h) (Or.inl ⟨by rfl, by intro w' hS'; go_simp <;> (first | omega | (rw [IntKind.wrap_i64]; omega) | (rw [IntKind.wrap_u64]; omega) | (rw [IntKind.wrap_u32]; omega) | (rw [Int.tmod_eq_emod_of_nonneg (by omega)]))⟩) hSd ?_
      (try simp only [List.getElem_toArray, List.getElem_cons_succ, List.getElem_cons_zero, Act.put, List.setIfInBounds_toArray, List.set_cons_zero, List.set_cons_succ])
      refine wpAnyH_take (i := 2) (v := .pointer (some ⟨g, q, none⟩)) rfl (by kernel_rfl) (by kernel_rfl) (by kernel_rfl) (fun _ _ _ h => h) (Or.inl ⟨by rfl, by intro w' hS'; go_simp <;> (first | omega | (rw [IntKind.wrap_i64]; omega) | (rw [IntKind.wrap_u64]; omega) | (rw [IntKind.wrap_u32]; omega) | (rw [Int.tmod_eq_emod_of_nonneg (by omega)]))⟩) hSd ?_
      (try simp only [List.getElem_toArray, List.getElem_cons_succ, List.getElem_cons_zero, Act.put, List.setIfInBounds_toArray, List.set_cons_zero, List.set_cons_succ])
      refine wpAnyH_take (i := 3) (v := .agg #[.int .i64 k, .int .i64 b, .string dd]) rfl (by kernel_rfl) (by kernel_rfl) (by kernel_rfl) (fun _ _ _ h => h) (yieldsIf_load_mid (by rfl) 89 (.tmp 19) rfl g q rfl [.int .i64 k, .int .i64 b, .string dd] _ HRG.out Try.underlying89 rfl (by kernel_rfl)) hSd ?_
      (try simp only [List.getElem_toArray, List.getElem_cons_succ, List.getElem_cons_zero, Act.put, List.setIfInBounds_toArray, List.set_cons_zero, List.set_cons_succ])
      refine wpAnyH_take (i := 4) (v := .slice (some ⟨h, 0, none⟩) n d) rfl (by kernel_rfl) (by kernel_rfl) (by kernel_rfl) (fun _ _ _ h => h) (Or.inl ⟨by rfl, by intro w' hS'; go_simp <;> (first | omega | (rw [IntKind.wrap_i64]; omega) | (rw [IntKind.wrap_u64]; omega) | (rw [IntKind.wrap_u32]; omega) | (rw [Int.tmod_eq_emod_of_nonneg (by omega)]))⟩) hSd ?_
      (try simp only [List.getElem_toArray, List.getElem_cons_succ, List.getElem_cons_zero, Act.put, List.setIfInBounds_toArray, List.set_cons_zero, List.set_cons_succ])
      refine wpAnyH_take (i := 5) (v := .int .i64 (i : Int)) rfl (by kernel_rfl) (by kernel_rfl) (by kernel_rfl) (fun _ _ _ h => h) (Or.inl ⟨by rfl, by intro w' hS'; go_simp <;> (first | omega | (rw [IntKind.wrap_i64]; omega) | (rw [IntKind.wrap_u64]; omega) | (rw [IntKind.wrap_u32]; omega) | (rw [Int.tmod_eq_emod_of_nonneg (by omega)]))⟩) hSd ?_
      (try simp only [List.getElem_toArray, List.getElem_cons_succ, List.getElem_cons_zero, Act.put, List.setIfInBounds_toArray, List.set_cons_zero, List.set_cons_succ])
      refine wpAnyH_take (i := 6) (v := .pointer (some ⟨h, q, none⟩)) rfl (by kernel_rfl) (by kernel_rfl) (by kernel_rfl) (fun _ _ _ h => h) (Or.inl ⟨by rfl, by intro w' hS'; go_simp <;> (first | omega | (rw [IntKind.wrap_i64]; omega) | (rw [IntKind.wrap_u64]; omega) | (rw [IntKind.wrap_u32]; omega) | (rw [Int.tmod_eq_emod_of_nonneg (by omega)]))⟩) hSd ?_
      (try simp only [List.getElem_toArray, List.getElem_cons_succ, List.getElem_cons_zero, Act.put, List.setIfInBounds_toArray, List.set_cons_zero, List.set_cons_succ])
      refine wpAnyH_take (i := 7) (v := .agg #[.int .i64 k, .int .i64 b, .string dd]) rfl (by kernel_rfl) (by kernel_rfl) (by kernel_rfl) (fun _ _ _ h => h) (yieldsIf_load_mid (by rfl) 89 (.tmp 23) rfl h q rfl [.int .i64 k, .int .i64 b, .string dd] _ HRH.out Try.underlying89 rfl (by kernel_rfl)) hSd ?_
      (try simp only [List.getElem_toArray, List.getElem_cons_succ, List.getElem_cons_zero, Act.put, List.setIfInBounds_toArray, List.set_cons_zero, List.set_cons_succ])
      refine held_step (i := 8) (by kernel_rfl) rfl (by rfl) ?_
      go_simp
      refine (HEE.out _).mono ?_
      rintro e w3 ⟨rfl, hb3⟩
      have hb4 : Below w.heap.size w w3 := by have hx := hSd; rw [HS.out] at hx; exact ⟨hb3.os.trans hx.os, hb3.tape.trans hx.tape, hb3.output.trans hx.output, Nat.le_trans hx.size hb3.size, fun i hi => (hb3.block i (Nat.lt_of_lt_of_le hi hx.size)).trans (hx.block i hi)⟩
      have hS3 : S w3 := by rw [HS.out]; exact hb4
      refine ⟨hS3, ?_⟩
      (try simp only [List.getElem_toArray, List.getElem_cons_succ, List.getElem_cons_zero, Act.put, List.setIfInBounds_toArray, List.set_cons_zero, List.set_cons_succ])
      refine wpAnyH_take (i := 9) (v := .bool false) rfl (by kernel_rfl) (by kernel_rfl) (by kernel_rfl) (fun _ _ _ h => h) (Or.inl ⟨by rfl, by intro w' hS'; go_simp <;> (first | omega | (rw [IntKind.wrap_i64]; omega) | (rw [IntKind.wrap_u64]; omega) | (rw [IntKind.wrap_u32]; omega) | (rw [Int.tmod_eq_emod_of_nonneg (by omega)]) | rfl)⟩) hS3 ?_
      (try simp only [List.getElem_toArray, List.getElem_cons_succ, List.getElem_cons_zero, Act.put, List.setIfInBounds_toArray, List.set_cons_zero, List.set_cons_succ])
      refine wpAnyH_done (by kernel_rfl) ?_ _
      go_wp2_with fail
      go_roundw
      case rel => exact ⟨i + 1, by omega, by go_num, hb4⟩
      case measure => simp [intN]; omega
    · obtain rfl : i = n := by omega
      go_wp2_with fail
      go_ret
      exact ⟨rfl, hb⟩
def cellP (F : Nat → PcI) (j : Nat) : Value := if j % 3 = 0 then .int .i64 (F (j / 3)).f else if j % 3 = 1 then .int .i64 (F (j / 3)).l else .string (F (j / 3)).d
theorem cellP_0 (F : Nat → PcI) (i : Nat) : cellP F (3 * i) = .int .i64 (F i).f := by unfold cellP; rw [if_pos (by omega), show 3 * i / 3 = i by omega]
theorem cellP_1 (F : Nat → PcI) (i : Nat) : cellP F (3 * i + 1) = .int .i64 (F i).l := by unfold cellP; rw [if_neg (by omega), if_pos (by omega), show (3 * i + 1) / 3 = i by omega]
theorem cellP_2 (F : Nat → PcI) (i : Nat) : cellP F (3 * i + 2) = .string (F i).d := by unfold cellP; rw [if_neg (by omega), if_neg (by omega), show (3 * i + 2) / 3 = i by omega]
def cellPX (F : Nat → PcI) (n : Nat) : List Value := (List.range (3 * n)).map (cellP F)
theorem cellPX_at (F : Nat → PcI) (n j : Nat) (h : j < 3 * n) : (cellPX F n)[j]? = some (cellP F j) := by
  unfold cellPX; rw [List.getElem?_map, List.getElem?_range h]; rfl
theorem cellPX_lt {F : Nat → PcI} {n j : Nat} {v : Value} (h : (cellPX F n)[j]? = some v) : j < 3 * n := by
  obtain ⟨hl, _⟩ := List.getElem?_eq_some_iff.1 h
  simpa [cellPX] using hl
theorem PcRow.at {w : World} {g n : Nat} {F : Nat → PcI} (h : PcRow w g n F) (j : Nat) (v : Value) (hv : (cellPX F n)[j]? = some v) : w.cell? ⟨g, j, none⟩ = some v := by
  have hj := cellPX_lt hv
  rw [cellPX_at _ _ _ hj] at hv
  injection hv with hv
  subst hv
  obtain ⟨i, h4⟩ : ∃ i, j = 3 * i ∨ j = 3 * i + 1 ∨ j = 3 * i + 2 := ⟨j / 3, by omega⟩
  rcases h4 with rfl | rfl | rfl
  · rw [cellP_0]; exact h.c0 i (by omega)
  · rw [cellP_1]; exact h.c1 i (by omega)
  · rw [cellP_2]; exact h.c2 i (by omega)
theorem eqPcS_any (v1 v2 : Value) (n : Nat) (F : Nat → PcI) (w : World) (hn : n ≤ 1048576) (h1 : PcArg w v1 n F) (h2 : PcArg w v2 n F) :
    Calls Try.prog 72 #[v1, v2] w fun e w' => e = .returned (.bool true) ∧ Below w.heap.size w w' := by
  obtain ⟨a, c, rfl, ha⟩ := h1
  obtain ⟨b, d, rfl, hb⟩ := h2
  by_cases h0 : 0 < n
  · obtain ⟨g, rfl, hg⟩ := ha h0
    obtain ⟨h, rfl, hh⟩ := hb h0
    exact eqPcS_rows g h c d n (cellPX F n) w hn (fun i hi => ⟨_, _, _, by rw [cellPX_at _ _ _ (by omega), cellP_0], by rw [cellPX_at _ _ _ (by omega), cellP_1], by rw [cellPX_at _ _ _ (by omega), cellP_2]⟩) hg.at hh.at hg.lt hh.lt
  · obtain rfl : n = 0 := by omega
    refine (eqPcS_zero a b c d w).mono ?_
    rintro e w' ⟨rfl, rfl⟩
    exact ⟨rfl, Below.refl _ _⟩
end Go.Proofs.Ytpeddaljgmkomaa

/-!   A list of pieces that came in as an argument, read as data. -/
namespace Go.Proofs.Ytpeddaljgmkomaa
open Go.ChangeShapes Go.WideShapes Go.ChangeAt Go.RowKit
open Go.ChangeMaps (open_string shut_string)
open Go.Deep
set_option linter.unusedVariables false
theorem laidOutP : laidOutB Try.prog = true := by kernel_rfl
theorem list3x {α : Type} {cs : List α} (h : cs.length = 3) : ∃ c0 c1 c2, cs = [c0, c1, c2] := by
  match cs, h with
  | [c0, c1, c2], _ => exact ⟨c0, c1, c2, rfl⟩
theorem cell_ltP {w : World} {a : Addr} {v : Value} (h : w.cell? a = some v) : a.block < w.heap.size ∧ a.spot = none := by
  unfold World.cell? at h
  split at h
  · rename_i c _ _ he
    refine ⟨(Array.getElem?_eq_some_iff.1 he).1, ?_⟩
    cases hs : a.spot with
    | none => rfl
    | some x => rw [hs] at h; simp at h
  · cases h
set_option maxRecDepth 100000 in
theorem read_onePc {H : Type} {enc : TypeId × Value → H} {W : World} {fuel : Nat} {cs : List Value} {x : DataW H × List MemPlace} (hl : cs.length = 3) (h : DataW.trod enc Try.prog W 0 (fun _ => true) true fuel 111 cs = some x) :
    ∃ t : PcI, cs = [.int .i64 t.f, .int .i64 t.l, .string t.d] ∧ t.d.size ≤ maxLen := by
  obtain ⟨c0, c1, c2, rfl⟩ := list3x hl
  obtain ⟨y0, y1, y2, n, _, _, t0, t1, t2⟩ := trod_struct3 Try.underlying111 h
  have cI : Try.prog.cellsOf 2 = 1 := by kernel_rfl
  have cS : Try.prog.cellsOf 9 = 1 := by kernel_rfl
  obtain ⟨k, e0, _⟩ := DataW.trod_int Try.underlying2 t0
  obtain ⟨b, e1, _⟩ := DataW.trod_int Try.underlying2 t1
  obtain ⟨dd, e2, _, hz⟩ := DataW.trod_string Try.underlying9 t2
  rw [cI] at e0 e1
  rw [cS] at e2
  simp at e0 e1 e2
  exact ⟨⟨k, b, dd⟩, by rw [e0, e1, e2], hz⟩
set_option maxRecDepth 100000 in
theorem read_inPc {H : Type} {enc : TypeId × Value → H} {W : World} {v : Value} {d : DataW H} {ps : List MemPlace} (h0 : DataW.Trod enc Try.prog W 0 (fun _ => true) true 46 v d ps) (ho : Value.okWide Try.prog W .any 0 46 v) :
    ∃ n F, n ≤ maxLen ∧ (∀ i, i < n → (F i).d.size ≤ maxLen) ∧ PcIn W v n F := by
  obtain ⟨a, n, c, rfl⟩ := okWide_slice Try.underlying46 ho
  obtain ⟨fuel, hf⟩ := h0
  have hf' : DataW.trod enc Try.prog W 0 (fun _ => true) true fuel 46 [.slice a n c] = some (d, ps) := by simpa [Value.cells] using hf
  rcases open_slice Try.underlying46 hf' with ⟨h, _⟩ | ⟨a', len, cap, m, nn, D, Pl, hcs, _, hlc, hcm, hmm, _, hx⟩
  · injection h with h _
    injection h with h1 h2 h3
    subst h1 h2 h3
    exact ⟨0, fun _ => ⟨0, 0, ⟨#[]⟩⟩, Nat.zero_le _, fun i hi => absurd hi (by omega), ⟨_, _, rfl, fun h => absurd h (by omega)⟩⟩
  · injection hcs with hcs _
    injection hcs with h1 h2 h3
    subst h1 h2 h3
    have c3 : Try.prog.cellsOf 111 = 3 := by kernel_rfl
    have hnm : n ≤ m := by rw [hmm]; split <;> omega
    have each : ∀ i, i < n → ∃ t : PcI, (W.cell? (a'.add (i * 3)) = some (.int .i64 t.f) ∧ W.cell? (a'.add (i * 3 + 1)) = some (.int .i64 t.l) ∧ W.cell? (a'.add (i * 3 + 2)) = some (.string t.d)) ∧ t.d.size ≤ maxLen := by
      intro i hi
      obtain ⟨cs', h1, h2⟩ := hx i (by omega)
      rw [c3] at h1
      obtain ⟨_, hlen, hcell⟩ := World.cells?_some h1
      obtain ⟨t, rfl, hz⟩ := read_onePc hlen h2
      have e0 := hcell 0 (by omega)
      have e1 := hcell 1 (by omega)
      have e2 := hcell 2 (by omega)
      rw [add_add] at e0 e1 e2
      exact ⟨t, ⟨e0, e1, e2⟩, hz⟩
    obtain ⟨F, hF⟩ : ∃ F : Nat → PcI, ∀ i, i < n → (W.cell? (a'.add (i * 3)) = some (.int .i64 (F i).f) ∧ W.cell? (a'.add (i * 3 + 1)) = some (.int .i64 (F i).l) ∧ W.cell? (a'.add (i * 3 + 2)) = some (.string (F i).d)) ∧ (F i).d.size ≤ maxLen :=
      ⟨fun i => if h : i < n then Classical.choose (each i h) else ⟨0, 0, ⟨#[]⟩⟩, fun i hi => by
        have := Classical.choose_spec (each i hi)
        simp only [dif_pos hi]
        exact this⟩
    refine ⟨n, F, Nat.le_trans hlc hcm, fun i hi => (hF i hi).2, ⟨_, _, rfl, fun h0 => ?_⟩⟩
    obtain ⟨t0, ⟨hc0, _⟩, _⟩ := each 0 h0
    have ha0 : a'.add (0 * 3) = a' := by simp [Addr.add]
    rw [ha0] at hc0
    obtain ⟨g, off, spot⟩ := a'
    obtain ⟨hlt, hsp⟩ := cell_ltP hc0
    have hsp : spot = none := hsp
    subst hsp
    refine ⟨g, off, rfl, hlt, fun i hi => ?_⟩
    have := (hF i hi).1
    simp only [add_plain, ← Nat.add_assoc] at this
    exact this
theorem szV_le {L x : Nat} (h : x ≤ L) : szV L x = .int .i64 ((L - x : Nat) : Int) := by unfold szV; rw [if_pos h]
theorem szV_no {L x : Nat} (h : ¬ x ≤ L) : szV L x = .int .i64 (-1) := by unfold szV; rw [if_neg h]
end Go.Proofs.Ytpeddaljgmkomaa

/-!   'string(b)' of bytes that the call has made; an append inside a statement whose order is open. -/
namespace Go.Proofs.Ytpeddaljgmkomaa
open Go.RowKit

theorem Try.inf5b : (Try.prog.info? 5).map (fun i => (i.zero, i.size, i.bytes)) = some (some (.int .u8 0), 1, 1) := by kernel_rfl
theorem conv_bytes {w : World} {base : Nat} {v : Value} {l : List UInt8} (h : w.ownsRow base 5 1 v l.length (Lib.byteCells l)) :
    (convert 39 9 v).run Try.prog w = .ok (.string ⟨l.toArray⟩) w := by
  obtain ⟨_, ⟨rfl, h0⟩ | ⟨g, cap, cur, rfl, hb, hg, hn, hc, hs, ht⟩⟩ := h
  · have : l = [] := List.eq_nil_of_length_eq_zero h0
    subst this
    rw [run_convert_bytes_nil w 39 5 Try.underlying39 Try.underlying5 0 0 9 Try.underlying9]
    rfl
  · refine run_convert_bytes_back w 39 9 5 _ cap l Try.underlying39 Try.underlying5 Try.underlying9 ?_
    intro j hj
    have h1 : (Lib.byteCells l)[j]? = some (.int .u8 (l[j].toNat : Int)) := by
      simp [Lib.byteCells, hj]
    have h2 : cur[j]? = some (.int .u8 (l[j].toNat : Int)) := by
      rw [← ht] at h1
      rw [List.getElem?_take] at h1
      split at h1
      · simpa using h1
      · cases h1
    have ea : (⟨g, 0, none⟩ : Addr).add j = ⟨g, j, none⟩ := by
      unfold Addr.add
      by_cases h0 : j = 0
      · subst h0; simp
      · simp [h0]
    rw [ea]
    simp [World.cell?, hg, h2]
theorem step_append_mine {P : Program} {ops : Array Oper} {o : Oper} {a : Act} {w : World} {K : Act → World → Prop} {Q : Exit → Act → World → Prop} {E : Prop} (hgd : o.guard = none) (s x : Operand) (t : TypeId)
    (ho : o.op = .call { callee := .builtin .append, args := #[s, x], argTypes := #[t, t] })
    (base : Nat) (e : TypeId) (i : TypeInfo) (z : Value) (size bytes : Nat) (ht : P.underlying t = some (.slice e)) (hi : P.info? e = some i) (hz : i.zero = some z)
    (hsize : i.size = size) (hby : i.bytes = bytes) (hzs : z.cells.size = size) (hsz : 0 < size)
    (v : Value) (n : Nat) (xs : List Value) (hs : a.eval s = v) (hown : w.ownsRow base e size v n xs)
    (ad : Addr) (m c : Nat) (news : List Value) (hx : a.eval x = .slice (some ad) m c) (hl : news.length = m * size) (hnews : ∀ j u, news[j]? = some u → w.cell? (ad.add j) = some u) (h1 : ∀ u ∈ news, u.oneCell' = true)
    (h63 : n + m ≤ maxLen) (hbytes : (n + m) * bytes ≤ 140737488355328) (hbase : base ≤ w.heap.size)
    (h : ∀ v' w', w'.ownsRow base e size v' (n + m) (xs ++ news) → w.grownBy w' v.ownBlock → (v' = .slice none 0 0 ↔ v = .slice none 0 0 ∧ m = 0) → K (a.put o.dst v') w') :
    if Region.wanted o (yielded ops a.tmps) = true then Oper.wp P o a w K Q else E := by
  have hw : Region.wanted o (yielded ops a.tmps) = true := by simp [Region.wanted, hgd]
  rw [if_pos hw]
  exact wp_append_own w s x t ho base e i z size bytes ht hi hz hsize hby hzs hsz v n xs hs hown ad m c news hx hl hnews h1 h63 hbytes hbase h
theorem cell_two {w : World} {x y : Value} {t : TypeId} : ∀ j u, [x, y][j]? = some u → (w.alloc (.cells #[x, y] t)).cell? ((⟨w.heap.size, 0, none⟩ : Addr).add j) = some u := by
  intro j u hj
  match j, hj with
  | 0, hj =>
    simp at hj; subst hj
    rw [show (⟨w.heap.size, 0, none⟩ : Addr).add 0 = ⟨w.heap.size, 0, none⟩ from by simp [Addr.add], World.cell?_alloc_mark]; rfl
  | 1, hj =>
    simp at hj; subst hj
    rw [show (⟨w.heap.size, 0, none⟩ : Addr).add 1 = ⟨w.heap.size, 1, none⟩ from by simp [Addr.add], World.cell?_alloc_mark]; rfl
  | j + 2, hj => simp at hj
theorem two_one {x y : Int} {k q : IntKind} : ∀ u ∈ [Value.int k x, Value.int q y], u.oneCell' = true := by
  intro u hu
  simp at hu
  rcases hu with rfl | rfl <;> rfl
theorem owns_drew {w : World} {base : Nat} {e : TypeId} {size : Nat} {v : Value} {n : Nat} {xs : List Value} (h : w.ownsRow base e size v n xs) : w.drew.ownsRow base e size v n xs := h
end Go.Proofs.Ytpeddaljgmkomaa
