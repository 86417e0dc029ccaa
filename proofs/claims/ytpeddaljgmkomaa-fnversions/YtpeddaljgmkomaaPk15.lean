/-
  Several texts of this seat as one: LkB, LkW, LkH.
-/
import Derived.Test.YtpeddaljgmkomaaPk08
import Derived.Test.YtpeddaljgmkomaaPk14

/-!   The list of links that the law makes of one that came in. -/
namespace Go.Proofs.Ytpeddaljgmkomaa
open Go.RowKit
set_option linter.unusedVariables false
set_option linter.unusedSimpArgs false
theorem take_set3 {C : Array Value} {q : Nat} {a b c : Value} (h : q + 2 < C.size) : (set3 C q a b c).toList.take (q + 3) = C.toList.take q ++ [a, b, c] := by
  apply List.ext_getElem?
  intro j
  have hs : (set3 C q a b c).size = C.size := set3_size _ _ _ _ _
  by_cases hj : j < q
  · rw [List.getElem?_take_of_lt (by omega), List.getElem?_append_left (by simp; omega), List.getElem?_take_of_lt hj, Array.getElem?_toList, Array.getElem?_toList, set3_low _ _ _ _ _ _ hj]
  · rw [List.getElem?_append_right (by simp; omega)]
    have hl : (C.toList.take q).length = q := by simp; omega
    rw [hl]
    by_cases hj3 : j < q + 3
    · rw [List.getElem?_take_of_lt hj3, Array.getElem?_toList]
      rcases (show j = q ∨ j = q + 1 ∨ j = q + 2 by omega) with rfl | rfl | rfl
      · rw [set3_0 _ _ _ _ _ h]; simp
      · rw [set3_1 _ _ _ _ _ h]; simp
      · rw [set3_2 _ _ _ _ _ h]; simp
    · rw [List.getElem?_eq_none (by simp; omega), List.getElem?_eq_none (by simp; omega)]
set_option maxRecDepth 100000 in
set_option maxHeartbeats 4000000 in
theorem toLkS_some (g off c n : Nat) (L : List LkI) (hLn : n = L.length) (w : World) (hn : n ≤ 1048576) (hp : ∀ x ∈ L, x.p.length ≤ 1048576) (hg : g < w.heap.size)
    (h0 : ∀ i x, L[i]? = some x → ∃ pv, w.cell? ⟨g, off + i * 3, none⟩ = some (.int .i64 x.b) ∧ w.cell? ⟨g, off + i * 3 + 1, none⟩ = some (.string x.d) ∧ w.cell? ⟨g, off + i * 3 + 2, none⟩ = some pv ∧ Rd w (pcsD x.p) pv) :
    Calls Try.prog 15 #[.slice (some ⟨g, off, none⟩) n c] w fun e w' => (e = .returned (.slice (some ⟨w.heap.size, 0, none⟩) n n) ∧ Own w' w.heap.size (lksD L) (.slice (some ⟨w.heap.size, 0, none⟩) n n)) ∧ Below w.heap.size w w' := by
  have hnI : (n : Int) ≤ 1048576 := by omega
  have HT : Hid (∀ (x : LkI) (pv : Value) (w : World), x.p.length ≤ 1048576 → Rd w (pcsD x.p) pv → Calls Try.prog 39 #[.agg #[.int .i64 x.b, .string x.d, pv]] w fun e w' => (∃ pv', e = .returned (.agg #[.int .i64 x.b, .string x.d, pv']) ∧ Own w' w.heap.size (pcsD x.p) pv') ∧ Below w.heap.size w w') := fun x pv w h1 h2 => toLk_one x pv w h1 h2
  have HC : Hid (n = L.length ∧ (∀ x ∈ L, x.p.length ≤ 1048576) ∧ ∀ i x, L[i]? = some x → ∃ pv, w.cell? ⟨g, off + i * 3, none⟩ = some (.int .i64 x.b) ∧ w.cell? ⟨g, off + i * 3 + 1, none⟩ = some (.string x.d) ∧ w.cell? ⟨g, off + i * 3 + 2, none⟩ = some pv ∧ Rd w (pcsD x.p) pv) := ⟨hLn, hp, h0⟩
  clear h0 hp hLn
  obtain ⟨i0, hi0, hz0, hz1, hz2⟩ := info_parts Try.infLk
  have hmk := run_make (P := Try.prog) w 25 54 i0 (.agg #[.int .i64 0, .string ⟨#[]⟩, .slice none 0 0]) Try.underlying25 hi0 hz0 .i64 .i64 (n : Int) (n : Int) (by omega) (by omega) (by rw [hz2]; omega) (by omega)
  rw [hz1, Int.toNat_natCast] at hmk
  have HZS : Hid ((madeCells (Value.agg #[.int .i64 0, .string ⟨#[]⟩, .slice none 0 0]).cells (n * 3)).size = 3 * n) := by
    show (madeCells _ _).size = _
    rw [size_madeCells]; omega
  generalize madeCells (Value.agg #[.int .i64 0, .string ⟨#[]⟩, .slice none 0 0]).cells (n * 3) = Z at hmk HZS
  have HU : Hid (Below w.heap.size w (w.alloc (.cells Z 54)) ∧ (w.alloc (.cells Z 54)).heap[w.heap.size]? = some (.cells Z 54 (0, 0))) := ⟨(Below.refl _ _).alloc (Nat.le_refl _) _, heap_alloc_new w _⟩
  go_enter Try.func15, Try.ntmps15
  go_wp2_with fail
  go_loopw [4] (fun v wr => ∃ (i : Nat) (C : Array Value), i ≤ n ∧ v = .int .i64 (i : Int) ∧ C.size = 3 * n ∧ Hid (Below w.heap.size w wr ∧ wr.heap[w.heap.size]? = some (.cells C 54 (0, 0))) ∧ Hid (Nst wr (w.heap.size + 1) (C.toList.take (3 * i)) ((L.take i).flatMap lkDs))) (fun v _ => n - (intN v).toNat)
  case atStart => exact ⟨0, Z, by omega, rfl, HZS.out, HU, Nst.nil _ _⟩
  case round =>
    clear HU
    obtain ⟨i, C, hi, rfl, hcs, HB, HCC⟩ := hrel
    have HCS : Hid (C.size = 3 * n) := hcs
    clear hcs
    by_cases hlt : i < n
    · have hltI : (i : Int) < (n : Int) := by omega
      have hx := List.getElem?_eq_getElem (l := L) (i := i) (by have := HC.out.1; omega)
      have hpx := HC.out.2.1 _ (List.mem_of_getElem? hx)
      obtain ⟨pv, x0, x1, x2, hrd⟩ := HC.out.2.2 i _ hx
      generalize L[i]'_ = x at hx hpx x0 x1 x2 hrd
      have HX : Hid (L[i]? = some x) := hx
      rw [← HB.out.1.cell (p := ⟨g, off + i * 3, none⟩) hg] at x0
      rw [← HB.out.1.cell (p := ⟨g, off + i * 3 + 1, none⟩) hg] at x1
      rw [← HB.out.1.cell (p := ⟨g, off + i * 3 + 2, none⟩) hg] at x2
      obtain ⟨a1, n1, c1, rfl, _⟩ := hrd.slice
      have HTT : Hid (Calls Try.prog 39 #[.agg #[.int .i64 x.b, .string x.d, .slice a1 n1 c1]] wr fun e w' => (∃ pv', e = .returned (.agg #[.int .i64 x.b, .string x.d, pv']) ∧ Own w' wr.heap.size (pcsD x.p) pv') ∧ Below wr.heap.size wr w') := HT.out x _ wr hpx (hrd.under HB.out.1)
      clear hx hpx hrd
      go_wp2_with fail
      refine HTT.out.mono ?_
      rintro e w3 ⟨⟨v', rfl, ho⟩, hb3⟩
      obtain ⟨a2, n2, c2, rfl, _⟩ := ho.rd.slice
      have hsz := HCS.out
      have hrow : w3.heap[w.heap.size]? = some (.cells C 54 (0, 0)) := (hb3.block _ (Array.getElem?_eq_some_iff.1 HB.out.2).1).trans HB.out.2
      have hbw : Below w.heap.size w w3 := dblow HB.out.1 hb3 HB.out.1.size
      obtain ⟨q, hq⟩ : ∃ q, q = 3 * i := ⟨_, rfl⟩
      have hiq : i * 3 = q := by omega
      have hqc : q + 2 < C.size := by omega
      have y0 : w3.cell? ⟨w.heap.size, q, none⟩ = some C[q] := (cell_of_row w3 _ q _ _ _ hrow).trans (Array.getElem?_eq_getElem (by omega))
      have y1 : w3.cell? ⟨w.heap.size, q + 1, none⟩ = some C[q + 1] := (cell_of_row w3 _ (q + 1) _ _ _ hrow).trans (Array.getElem?_eq_getElem (by omega))
      have y2 : w3.cell? ⟨w.heap.size, q + 2, none⟩ = some C[q + 2] := (cell_of_row w3 _ (q + 2) _ _ _ hrow).trans (Array.getElem?_eq_getElem (by omega))
      have z0 := frozen_of_row w3 _ q _ _ hrow
      have z1 := frozen_of_row w3 _ (q + 1) _ _ hrow
      have z2 := frozen_of_row w3 _ (q + 2) _ _ hrow
      have HN : Hid (Below w.heap.size w (setW3 w3 w.heap.size q (.int .i64 x.b) (.string x.d) (.slice a2 n2 c2)) ∧ (setW3 w3 w.heap.size q (.int .i64 x.b) (.string x.d) (.slice a2 n2 c2)).heap[w.heap.size]? = some (.cells (set3 C q (.int .i64 x.b) (.string x.d) (.slice a2 n2 c2)) 54 (0, 0))) :=
        ⟨setW3_below hbw (Nat.le_refl _) _ _ _ _, setW3_row hrow _ _ _ _⟩
      have HN2 : Hid (Nst (setW3 w3 w.heap.size q (.int .i64 x.b) (.string x.d) (.slice a2 n2 c2)) (w.heap.size + 1) ((set3 C q (.int .i64 x.b) (.string x.d) (.slice a2 n2 c2)).toList.take (3 * (i + 1))) ((L.take (i + 1)).flatMap lkDs)) := by
        rw [show 3 * (i + 1) = q + 3 by omega, take_set3 hqc, fm_take lkDs HX.out, hq]
        have hwl : w.heap.size < wr.heap.size := (Array.getElem?_eq_some_iff.1 HB.out.2).1
        refine (HCC.out.app hb3 (Nst.one _ (Nst.one _ ho.nst)) hwl).keep fun b hb _ => ?_
        exact setW3_other _ _ _ _ _ _ (by omega)
      have HSS : Hid ((set3 C q (.int .i64 x.b) (.string x.d) (.slice a2 n2 c2)).size = 3 * n) := (set3_size _ _ _ _ _).trans HCS.out
      generalize C[q] = u0 at y0
      generalize C[q + 1] = u1 at y1
      generalize C[q + 2] = u2 at y2
      clear hsz hrow hbw hb3 x0 x1 x2 hq HB ho HTT HCC hqc
      go_wp2_with fail
      go_roundw
      case rel => exact ⟨i + 1, _, by omega, by go_num, HSS.out, HN, HN2⟩
      case measure => simp [intN]; omega
    · obtain rfl : i = n := by omega
      go_wp2_with fail
      go_ret
      have hr := HB.out.2
      have hnL := HC.out.1
      refine ⟨⟨rfl, Own.of_nst (lo := w.heap.size + 1) (us := C.toList.take (3 * i)) ⟨by rw [List.length_take]; have := HCS.out; simp; omega, Or.inr ⟨w.heap.size, i, C, rfl, Nat.le_refl _, hr, Nat.le_refl _, by unfold maxLen; omega, by rw [HCS.out]; omega, by rw [Nat.mul_comm]⟩⟩ (by omega) (by have h := HCC.out; rw [List.take_of_length_le (by omega : L.length ≤ i)] at h; exact h) (by rw [fm_len lkDs_len]; omega) (by omega) (fun g' hg' => by have e : w.heap.size = g' := Option.some.inj hg'; omega)⟩, HB.out.1⟩
set_option maxRecDepth 100000 in
theorem toLkS_zero (a : Option Addr) (c : Nat) (w : World) :
    Calls Try.prog 15 #[.slice a 0 c] w fun e w' => (∃ b, e = .returned (.slice b 0 0)) ∧ Below w.heap.size w w' := by
  obtain ⟨i0, hi0, hz0, hz1, hz2⟩ := info_parts Try.infLk
  have hmk := run_make (P := Try.prog) w 25 54 i0 (.agg #[.int .i64 0, .string ⟨#[]⟩, .slice none 0 0]) Try.underlying25 hi0 hz0 .i64 .i64 0 0 (by omega) (by omega) (by rw [hz2]; omega) (by omega)
  rw [hz1] at hmk
  generalize madeCells (Value.agg #[.int .i64 0, .string ⟨#[]⟩, .slice none 0 0]).cells _ = Z at hmk
  go_enter Try.func15, Try.ntmps15
  go_wp2_with fail
  refine wp_loop_rounds 1 ?_
  rw [rounds_succ]
  go_wp2_with fail
  go_ret
  exact ⟨⟨_, rfl⟩, (Below.refl _ _).alloc (Nat.le_refl _) _⟩
theorem toLkS_deep (v : Value) (L : List LkI) (w : World) (hn : L.length ≤ 1048576) (hp : ∀ x ∈ L, x.p.length ≤ 1048576) (h : Rd w (lksD L) v) :
    Calls Try.prog 15 #[v] w fun e w' => (∃ v', e = .returned v' ∧ Own w' w.heap.size (lksD L) v') ∧ Below w.heap.size w w' := by
  obtain ⟨a, c, rfl, hr⟩ := lks_rd h
  by_cases h0 : 0 < L.length
  · obtain ⟨g, off, rfl, hg, hx⟩ := hr h0
    refine (toLkS_some g off c L.length L rfl w hn hp hg hx).mono ?_
    rintro e w' ⟨⟨rfl, ho⟩, hb⟩
    exact ⟨⟨_, rfl, ho⟩, hb⟩
  · have e0 : L = [] := List.length_eq_zero_iff.1 (by omega)
    subst e0
    refine (toLkS_zero a c w).mono ?_
    rintro e w' ⟨⟨b, rfl⟩, hb⟩
    exact ⟨⟨_, rfl, [], .nil _ _ _ _, List.nodup_nil, fun b hb => by cases hb⟩, hb⟩
end Go.Proofs.Ytpeddaljgmkomaa

/-!   A chain with another link in the place of one: in memory, and the code's way. -/
namespace Go.Proofs.Ytpeddaljgmkomaa
open Go.RowKit
set_option linter.unusedVariables false
set_option linter.unusedSimpArgs false
theorem lks_own {w : World} {lo : Nat} {L : List LkI} {v : Value} (h : Own w lo (lksD L) v) : ∃ a c, v = .slice a L.length c ∧ (0 < L.length → ∃ g cur fb, a = some ⟨g, 0, none⟩ ∧ lo ≤ g ∧ w.heap[g]? = some (.cells cur 54 (0, 0)) ∧ 3 * L.length ≤ cur.size ∧ (g :: (List.range L.length).flatMap fb).Nodup ∧ (∀ b ∈ (List.range L.length).flatMap fb, lo ≤ b ∧ b < w.heap.size) ∧ ∀ i x, L[i]? = some x → ∃ pv, cur[3 * i]? = some (.int .i64 x.b) ∧ cur[3 * i + 1]? = some (.string x.d) ∧ cur[3 * i + 2]? = some pv ∧ Hd w (pcsD x.p) pv (fb i)) := by
  obtain ⟨bs, h1, h2, h3⟩ := h
  obtain ⟨a, c, rfl, _, hx⟩ := lks_hd h1
  refine ⟨a, c, rfl, fun h0 => ?_⟩
  obtain ⟨g, cur, fb, rfl, hr, hs, rfl, hc⟩ := hx h0
  exact ⟨g, cur, fb, rfl, h3 g (by simp), hr, hs, h2, fun b hb => ⟨h3 b (List.mem_cons_of_mem _ hb), h1.lt b (List.mem_cons_of_mem _ hb)⟩, hc⟩
/-- one link is written over -/
theorem lks_set {w : World} {lo : Nat} {L : List LkI} {g c k : Nat} {cur : Array Value} {fb : Nat → List Nat} {x : LkI} {pv : Value} {bx : List Nat} (hk : k < L.length) (hlo : lo ≤ g) (hr : w.heap[g]? = some (.cells cur 54 (0, 0))) (hs : 3 * L.length ≤ cur.size) (hnd : (g :: (List.range L.length).flatMap fb).Nodup) (hlb : ∀ b ∈ (List.range L.length).flatMap fb, lo ≤ b ∧ b < w.heap.size)
    (hc : ∀ i x, L[i]? = some x → ∃ pv, cur[3 * i]? = some (.int .i64 x.b) ∧ cur[3 * i + 1]? = some (.string x.d) ∧ cur[3 * i + 2]? = some pv ∧ Hd w (pcsD x.p) pv (fb i))
    (hx : Hd w (pcsD x.p) pv bx) (hxn : bx.Nodup) (hxl : ∀ b ∈ bx, lo ≤ b) (hxg : g ∉ bx) (hxf : ∀ b ∈ bx, b ∉ (List.range L.length).flatMap fb) :
    Own (setW3 w g (3 * k) (.int .i64 x.b) (.string x.d) pv) lo (lksD (L.set k x)) (.slice (some ⟨g, 0, none⟩) L.length c) := by
  have hgf : g ∉ (List.range L.length).flatMap fb := (List.nodup_cons.1 hnd).1
  have hfn := flat_nodup (List.nodup_cons.1 hnd).2
  have hin : ∀ i, i < L.length → ∀ b ∈ fb i, b ∈ (List.range L.length).flatMap fb := fun i hi b hb => List.mem_flatMap.2 ⟨i, List.mem_range.2 hi, hb⟩
  have hkeep : ∀ b, b ≠ g → (setW3 w g (3 * k) (.int .i64 x.b) (.string x.d) pv).heap[b]? = w.heap[b]? := fun b hb => setW3_other _ _ _ _ _ _ hb
  have h := lks_mk (w := setW3 w g (3 * k) (.int .i64 x.b) (.string x.d) pv) (L := L.set k x) (g := g) (c := c) (cur := set3 cur (3 * k) (.int .i64 x.b) (.string x.d) pv) (fb := fun i => if i = k then bx else fb i) (by simp; omega) (setW3_row hr _ _ _ _) (by rw [set3_size, List.length_set]; exact hs) (fun i y hy => by
    rw [List.getElem?_set] at hy
    by_cases e : k = i
    · subst e
      rw [if_pos rfl, if_pos hk] at hy
      have hy := Option.some.inj hy
      subst hy
      refine ⟨pv, set3_0 _ _ _ _ _ (by omega), set3_1 _ _ _ _ _ (by omega), set3_2 _ _ _ _ _ (by omega), ?_⟩
      rw [if_pos rfl]
      exact hx.keep fun b hb => hkeep b fun e => hxg (e ▸ hb)
    · rw [if_neg e] at hy
      have hi := (List.getElem?_eq_some_iff.1 hy).1
      obtain ⟨pv', c0, c1, c2, hd⟩ := hc i y hy
      refine ⟨pv', ?_, ?_, ?_, ?_⟩
      · unfold set3
        rw [Array.getElem?_setIfInBounds_ne (by omega), Array.getElem?_setIfInBounds_ne (by omega), Array.getElem?_setIfInBounds_ne (by omega)]; exact c0
      · unfold set3
        rw [Array.getElem?_setIfInBounds_ne (by omega), Array.getElem?_setIfInBounds_ne (by omega), Array.getElem?_setIfInBounds_ne (by omega)]; exact c1
      · unfold set3
        rw [Array.getElem?_setIfInBounds_ne (by omega), Array.getElem?_setIfInBounds_ne (by omega), Array.getElem?_setIfInBounds_ne (by omega)]; exact c2
      · rw [if_neg (fun h => e h.symm)]
        exact hd.keep fun b hb => hkeep b fun e => hgf (e ▸ hin i hi b hb))
  rw [List.length_set] at h
  refine ⟨_, h, List.nodup_cons.2 ⟨fun hm => ?_, ?_⟩, fun b hb => ?_⟩
  · obtain ⟨i, hi, hm⟩ := List.mem_flatMap.1 hm
    have hi := List.mem_range.1 hi
    by_cases e : i = k
    · rw [if_pos e] at hm; exact hxg hm
    · rw [if_neg e] at hm; exact hgf (hin i hi g hm)
  · refine nodup_flatMap (fun i hi => ?_) fun i j hij hj b hb hb2 => ?_
    · by_cases e : i = k
      · rw [if_pos e]; exact hxn
      · rw [if_neg e]; exact hfn.1 i hi
    · by_cases e : i = k
      · rw [if_pos e] at hb
        rw [if_neg (by omega)] at hb2
        exact hxf b hb (hin j hj b hb2)
      · rw [if_neg e] at hb
        by_cases e2 : j = k
        · rw [if_pos e2] at hb2
          exact hxf b hb2 (hin i (by omega) b hb)
        · rw [if_neg e2] at hb2
          exact hfn.2 i j (by omega) hj (by omega) b hb hb2
  · rcases List.mem_cons.1 hb with rfl | hb
    · exact hlo
    · obtain ⟨i, hi, hb⟩ := List.mem_flatMap.1 hb
      have hi := List.mem_range.1 hi
      by_cases e : i = k
      · rw [if_pos e] at hb; exact hxl b hb
      · rw [if_neg e] at hb; exact (hlb b (hin i hi b hb)).1
theorem pcP_mono {p : PcI} {a b : Int} (h : pcP p a) (hab : a ≤ b) : pcP p b := by
  rcases h with ⟨h, h1, h2, h3, h4⟩ | h
  · exact Or.inl ⟨h, h1, by omega, h3, by omega⟩
  · exact Or.inr h
/-- links of a right chain -/
theorem lkG_of {L : List LkI} {V : List VerI} (hl : LkLe L) (h : vAll L = some V) : ∀ x ∈ L, LkG x := by
  intro x hx
  obtain ⟨i, hi, hxi⟩ := List.getElem_of_mem hx
  have hx2 : L[i]? = some x := by rw [List.getElem?_eq_getElem hi, hxi]
  obtain ⟨_, hV, _⟩ := vAll_some h
  obtain ⟨v, _, hm⟩ := vF_mk hV hi hx2
  have hle := hl.one x hx
  have hbd : VerB (V.take i) := vF_bd (vF_take hV i (by omega))
  refine ⟨hle.1, ?_, fun p hp => ?_⟩
  · unfold mkV at hm
    split at hm
    · split at hm
      · rename_i h1; omega
      · cases hm
    · split at hm
      · split at hm
        · cases hm
        · split at hm
          · rename_i h1; exact h1.2.1.2.2.1
          · cases hm
      · cases hm
  · obtain ⟨j, hj, hpj⟩ := List.getElem_of_mem hp
    have hpj2 : pcF x.p j = p := pcF_at (by rw [List.getElem?_eq_getElem hj, hpj])
    have hd := hle.2.2.d j hj
    rw [hpj2] at hd
    refine ⟨?_, hd⟩
    unfold mkV at hm
    split at hm
    · split at hm
      · rename_i h1; omega
      · cases hm
    · split at hm
      · split at hm
        · cases hm
        · rename_i o ho
          split at hm
          · rename_i h1
            have h2 := h1.2.1.2.2.2.1 j hj
            rw [hpj2] at h2
            have h3 := hbd o (List.mem_of_getElem? ho)
            exact pcP_mono h2 (by omega)
          · cases hm
      · cases hm
set_option maxRecDepth 100000 in
set_option maxHeartbeats 2000000 in
theorem withLk_any (v : Value) (L : List LkI) (bs : List Nat) (k : Nat) (x : LkI) (pv : Value) (lo : Nat) (w : World) (hn : L.length ≤ 30) (hk : k < L.length) (hG : ∀ x ∈ L, LkG x) (h : Hd w (lksD L) v bs) (ho : Own w lo (pcsD x.p) pv) (hlo : lo ≤ w.heap.size) :
    Calls Try.prog 54 #[v, .int .i64 (k : Int), .agg #[.int .i64 x.b, .string x.d, pv]] w fun e w' => (∃ v', e = .returned v' ∧ Own w' lo (lksD (L.set k x)) v') ∧ Below w.heap.size w w' := by
  obtain ⟨b, d, p⟩ := x
  simp only at ho ⊢
  obtain ⟨a1, n1, c1, rfl, _⟩ := ho.rd.slice
  obtain ⟨a, c, rfl, _⟩ := lks_at h
  have HCL : Hid (∀ w', Below w.heap.size w w' → Calls Try.prog 48 #[.slice a L.length c] w' fun e w2 => (∃ v us, e = .returned v ∧ Gl w2 w'.heap.size 54 3 isPc v L.length us (L.flatMap lkDs)) ∧ Below w'.heap.size w' w2) := fun w' hb => cpLk_gl _ L bs w' hn hG (h.under hb)
  have HB1 : Hid (Below w.heap.size w (w.alloc (.cells #[.int .i64 b, .string d, .slice a1 n1 c1] 54))) := (Below.refl _ _).alloc (Nat.le_refl _) _
  have HR1 : Hid ((w.alloc (.cells #[.int .i64 b, .string d, .slice a1 n1 c1] 54)).heap[w.heap.size]? = some (.cells #[.int .i64 b, .string d, .slice a1 n1 c1] 54 (0, 0))) := heap_alloc_new w _
  have HO := dhid ho
  clear h ho
  go_enter Try.func54, Try.ntmps54
  go_wp2_with fail
  refine (HCL.out _ HB1.out).mono ?_
  rintro e w3 ⟨⟨v', us, rfl, hgl⟩, hb3⟩
  have hown := hgl.own (by omega) (by rw [fm_len lkDs_len])
  have hs1 : (w.alloc (.cells #[.int .i64 b, .string d, .slice a1 n1 c1] 54)).heap.size = w.heap.size + 1 := by simp
  have hb3' := hb3
  rw [hs1] at hown hb3'
  have hown2 : Own w3 (w.heap.size + 1) (lksD L) v' := hown
  obtain ⟨a3, c3, rfl, hx⟩ := lks_own hown2
  obtain ⟨g, cur, fb, rfl, hg1, hr, hs, hnd, hlb, hc⟩ := hx (by omega)
  have r1 := (hb3.block w.heap.size (by simp)).trans HR1.out
  have HB3 := dhid (dblow HB1.out hb3 HB1.out.size)
  have y0 : w3.cell? ⟨w.heap.size, 0, none⟩ = some (.int .i64 b) := cell_of_row w3 _ 0 _ _ _ r1
  have y1 : w3.cell? ⟨w.heap.size, 1, none⟩ = some (.string d) := cell_of_row w3 _ 1 _ _ _ r1
  have y2 : w3.cell? ⟨w.heap.size, 2, none⟩ = some (.slice a1 n1 c1) := cell_of_row w3 _ 2 _ _ _ r1
  obtain ⟨q, hq⟩ : ∃ q, q = 3 * k := ⟨_, rfl⟩
  have hkq : k * 3 = q := by omega
  have hqs : q + 2 < cur.size := by omega
  have x0 : w3.cell? ⟨g, q, none⟩ = some cur[q] := (cell_of_row w3 _ q _ _ _ hr).trans (Array.getElem?_eq_getElem (by omega))
  have x1 : w3.cell? ⟨g, q + 1, none⟩ = some cur[q + 1] := (cell_of_row w3 _ (q + 1) _ _ _ hr).trans (Array.getElem?_eq_getElem (by omega))
  have x2 : w3.cell? ⟨g, q + 2, none⟩ = some cur[q + 2] := (cell_of_row w3 _ (q + 2) _ _ _ hr).trans (Array.getElem?_eq_getElem (by omega))
  have z0 := frozen_of_row w3 _ q _ _ hr
  have z1 := frozen_of_row w3 _ (q + 1) _ _ hr
  have z2 := frozen_of_row w3 _ (q + 2) _ _ hr
  have ho3 := HO.out.under HB3.out
  obtain ⟨bx, hx1, hx2, hx3⟩ := HO.out
  have hx1' := hx1.under HB3.out
  have hxlt := hx1.lt
  have HEND : Hid (Own (setW3 w3 g q (.int .i64 b) (.string d) (.slice a1 n1 c1)) lo (lksD (L.set k ⟨b, d, p⟩)) (.slice (some ⟨g, 0, none⟩) L.length c3)) := by
    show Own _ _ _ _
    rw [hq]
    exact lks_set (x := ⟨b, d, p⟩) hk (by omega) hr hs hnd (fun b hb => ⟨by have := (hlb b hb).1; omega, (hlb b hb).2⟩) hc hx1' hx2 hx3 (fun hm => by have := hxlt g hm; omega) (fun b hb hm => by have := hxlt b hb; have := (hlb b hm).1; omega)
  have HBE : Hid (Below w.heap.size w (setW3 w3 g q (.int .i64 b) (.string d) (.slice a1 n1 c1))) := setW3_below HB3.out (by omega) _ _ _ _
  generalize cur[q] = u0 at x0
  generalize cur[q + 1] = u1 at x1
  generalize cur[q + 2] = u2 at x2
  have hne : g ≠ w.heap.size := by omega
  obtain ⟨n, hnn⟩ : ∃ n, n = L.length := ⟨_, rfl⟩
  rw [← hnn] at HEND hk hn ⊢
  have hkI : (k : Int) < (n : Int) := by omega
  clear hgl hb3 hown hown2 hs1 hb3' hx hr hs hnd hlb hc r1 hq hqs ho3 hx1 hx2 hx3 hx1' hxlt HCL HR1 hnn
  go_wp2_with fail
  go_ret
  exact ⟨⟨_, rfl, HEND.out⟩, HBE.out⟩
end Go.Proofs.Ytpeddaljgmkomaa

/-!   Whether links hold their marks: the law's own way. -/
namespace Go.Proofs.Ytpeddaljgmkomaa
open Go.RowKit
set_option linter.unusedVariables false
set_option linter.unusedSimpArgs false
set_option maxRecDepth 100000 in
theorem heldLk_zero (a : Option Addr) (c k : Nat) (w : World) :
    Calls Try.prog 25 #[.slice a 0 c, .int .i64 (k : Int)] w fun e w' => e = .returned (.int .i64 (k : Int)) ∧ w' = w := by
  go_enter Try.func25, Try.ntmps25
  go_wp2_with fail
  refine wp_loop_rounds 1 ?_
  rw [rounds_succ]
  go_wp2_with fail
  go_ret
  exact ⟨rfl, rfl⟩
set_option maxRecDepth 100000 in
set_option maxHeartbeats 2000000 in
theorem heldLk_some (g c n k : Nat) (L : List LkI) (hLn : n = L.length) (w : World) (hn4 : n ≤ 4000000) (hp : ∀ x ∈ L, x.p.length ≤ 1048576) (h1 : 1 ≤ k) (hk : k + lkMN L ≤ 4000000) (hg : LkCells w g (lkMk L k)) :
    Calls Try.prog 25 #[.slice (some ⟨g, 0, none⟩) n c, .int .i64 (k : Int)] w fun e w' => e = .returned (.int .i64 ((k + lkMN L : Nat) : Int)) ∧ Below w.heap.size w w' := by
  have HX : Hid (n = L.length ∧ (∀ x ∈ L, x.p.length ≤ 1048576) ∧ k + lkMN L ≤ 4000000 ∧ 1 ≤ k ∧ LkCells w g (lkMk L k)) := ⟨hLn, hp, hk, h1, hg⟩
  have HM : Hid (∀ (k : Nat) (w : World), 1 ≤ k → k ≤ 10000000 → Calls Try.prog 51 #[.int .i64 (k : Int)] w fun e w' => e = .returned (.string (mkT k)) ∧ Below w.heap.size w w') := fun k w h1 h2 => markT_any k w h1 h2
  have HP : Hid (∀ (v : Value) (n k : Nat) (bs : List Nat) (w : World), n ≤ 1048576 → 1 ≤ k → k ≤ 4000000 → Hd w (pcsD (pcMk n k)) v bs → Calls Try.prog 53 #[v, .int .i64 (k : Int)] w fun e w' => e = .returned (.int .i64 ((k + 3 * n : Nat) : Int)) ∧ Below w.heap.size w w') := fun v n k bs w h1 h2 h3 h4 => heldPcs_deep v n k bs w h1 h2 h3 h4
  clear hLn hp hk h1 hg
  go_enter Try.func25, Try.ntmps25
  go_wp2_with fail
  go_loopw [1, 5] (fun x v wr => ∃ i : Nat, i ≤ n ∧ x = .int .i64 ((k + lkMN (L.take i) : Nat) : Int) ∧ v = .int .i64 (i : Int) ∧ Below w.heap.size w wr) (fun _ v _ => n - natP v)
  case atStart => exact ⟨0, by omega, rfl, rfl, Below.refl _ _⟩
  case round =>
    obtain ⟨i, hi, rfl, rfl, hb⟩ := hrel
    by_cases hlt : i < n
    · have hltI : (i : Int) < (n : Int) := by omega
      have hx := List.getElem?_eq_getElem (l := L) (i := i) (by have := HX.out.1; omega)
      have hpx := HX.out.2.1 _ (List.mem_of_getElem? hx)
      generalize L[i]'_ = x at hx hpx
      have hgl := HX.out.2.2.2.2.1
      obtain ⟨pv, bs, c0, c1, c2, hd⟩ := HX.out.2.2.2.2.2 i _ (lkMk_at L k i x hx)
      have hmt := lkMN_take hx
      have hml := lkMN_le L (i + 1)
      have hm1 : lkM1 x = 2 + 3 * x.p.length := rfl
      have hkb := HX.out.2.2.1
      have hk1 := HX.out.2.2.2.1
      obtain ⟨q, hq⟩ : ∃ q, q = 3 * i := ⟨_, rfl⟩
      have hiq : i * 3 = q := by omega
      obtain ⟨k0, hk0⟩ : ∃ k0, k0 = k + lkMN (L.take i) := ⟨_, rfl⟩
      have hk0b : k0 + 2 ≤ 4000000 := by omega
      have hk0l : 1 ≤ k0 := by omega
      have HK : Hid (k0 = k + lkMN (L.take i) ∧ k + lkMN (L.take (i + 1)) = k0 + 2 + 3 * x.p.length) := ⟨hk0, by omega⟩
      rw [← hk0] at c0 c1 hd ⊢
      rw [← hq] at c0 c1 c2
      unfold lkMk1 at c0 c1 hd
      simp only at c0 c1 hd
      have HMK : Hid (∀ w, Calls Try.prog 51 #[.int .i64 ((k0 : Int) + 1)] w fun e w' => e = .returned (.string (mkT (k0 + 1))) ∧ Below w.heap.size w w') := fun w => by
        have h := HM.out (k0 + 1) w (by omega) (by omega)
        rw [show ((k0 + 1 : Nat) : Int) = (k0 : Int) + 1 by omega] at h
        exact h
      have hwk1 : IntKind.i64.wrap ((k0 : Int) + 1) = (k0 : Int) + 1 := by rw [IntKind.wrap_i64]; omega
      have hwk2 : IntKind.i64.wrap ((k0 : Int) + 1 + 1) = ((k0 + 2 : Nat) : Int) := by rw [IntKind.wrap_i64]; omega
      have x0 : wr.cell? ⟨g, q, none⟩ = some (.int .i64 (k0 : Int)) := (hb.cell (p := ⟨g, q, none⟩) hgl).trans c0
      have HP2 : Hid (∀ w', Below w.heap.size w w' → Calls Try.prog 53 #[pv, .int .i64 ((k0 + 2 : Nat) : Int)] w' fun e w2 => e = .returned (.int .i64 ((k0 + 2 + 3 * x.p.length : Nat) : Int)) ∧ Below w'.heap.size w' w2) := fun w' hb' => HP.out pv x.p.length (k0 + 2) bs w' hpx (by omega) hk0b (hd.under hb')
      have HC2 : Hid (∀ w', Below w.heap.size w w' → w'.cell? ⟨g, q + 2, none⟩ = some pv) := fun w' hb' => (hb'.cell (p := ⟨g, q + 2, none⟩) hgl).trans c2
      obtain ⟨S, hSS⟩ : ∃ S : World → Prop, S = fun w' => Below w.heap.size w w' := ⟨_, rfl⟩
      have hSd : S wr.drew := by rw [hSS]; exact hb.drew
      have HX1 : Hid (∀ w', S w' → w'.cell? ⟨g, q + 1, none⟩ = some (.string (mkT (k0 + 1)))) := fun w' hS' => by rw [hSS] at hS'; exact (hS'.cell (p := ⟨g, q + 1, none⟩) hgl).trans c1
      have HS : Hid (S = fun w' => Below w.heap.size w w') := hSS
      obtain ⟨a5, n5, c5, rfl, _⟩ := hd.rd.slice
      generalize mkT (k0 + 1) = T at *
      have hNN : ¬ ((k0 + 2 + 3 * x.p.length : Nat) : Int) < 0 := by omega
      obtain ⟨K, hK⟩ : ∃ K, K = k0 + 2 + 3 * x.p.length := ⟨_, rfl⟩
      rw [← hK] at HP2 hNN HK
      clear hSS hq hk0 c0 c1 c2 hd hmt hml hm1 hkb hk1 hpx hx hgl hK
      go_wp2_with fail
      refine wp_region_held (S := S) (by kernel_rfl) ?_
      change wpAnyH _ _ _ _ _ _ _ _ (World.drew _)
      refine wpAnyH_take (i := 0) (v := .slice (some ⟨g, 0, none⟩) n c) rfl (by kernel_rfl) (by kernel_rfl) (by kernel_rfl) (fun _ _ _ h => h) (Or.inl ⟨by rfl, by intro w' hS'; go_simp <;> (first | omega | (rw [IntKind.wrap_i64]; omega) | (rw [IntKind.wrap_u64]; omega) | (rw [IntKind.wrap_u32]; omega) | (rw [Int.tmod_eq_emod_of_nonneg (by omega)]))⟩) hSd ?_
      (try simp only [List.getElem_toArray, List.getElem_cons_succ, List.getElem_cons_zero, Act.put, List.setIfInBounds_toArray, List.set_cons_zero, List.set_cons_succ])
      refine wpAnyH_take (i := 1) (v := .int .i64 (i : Int)) rfl (by kernel_rfl) (by kernel_rfl) (by kernel_rfl) (fun _ _ _ h => h) (Or.inl ⟨by rfl, by intro w' hS'; go_simp <;> (first | omega | (rw [IntKind.wrap_i64]; omega) | (rw [IntKind.wrap_u64]; omega) | (rw [IntKind.wrap_u32]; omega) | (rw [Int.tmod_eq_emod_of_nonneg (by omega)]))⟩) hSd ?_
      (try simp only [List.getElem_toArray, List.getElem_cons_succ, List.getElem_cons_zero, Act.put, List.setIfInBounds_toArray, List.set_cons_zero, List.set_cons_succ])
      refine wpAnyH_take (i := 2) (v := .pointer (some ⟨g, q, none⟩)) rfl (by kernel_rfl) (by kernel_rfl) (by kernel_rfl) (fun _ _ _ h => h) (Or.inl ⟨by rfl, by intro w' hS'; go_simp <;> (first | omega | (rw [IntKind.wrap_i64]; omega) | (rw [IntKind.wrap_u64]; omega) | (rw [IntKind.wrap_u32]; omega) | (rw [Int.tmod_eq_emod_of_nonneg (by omega)]))⟩) hSd ?_
      (try simp only [List.getElem_toArray, List.getElem_cons_succ, List.getElem_cons_zero, Act.put, List.setIfInBounds_toArray, List.set_cons_zero, List.set_cons_succ])
      refine wpAnyH_take (i := 3) (v := .pointer (some ⟨g, q + 1, none⟩)) rfl (by kernel_rfl) (by kernel_rfl) (by kernel_rfl) (fun _ _ _ h => h) (Or.inl ⟨by rfl, by intro w' hS'; go_simp <;> (first | omega | (rw [IntKind.wrap_i64]; omega) | (rw [IntKind.wrap_u64]; omega) | (rw [IntKind.wrap_u32]; omega) | (rw [Int.tmod_eq_emod_of_nonneg (by omega)]))⟩) hSd ?_
      (try simp only [List.getElem_toArray, List.getElem_cons_succ, List.getElem_cons_zero, Act.put, List.setIfInBounds_toArray, List.set_cons_zero, List.set_cons_succ])
      refine wpAnyH_take (i := 4) (v := .string T) rfl (by kernel_rfl) (by kernel_rfl) (by kernel_rfl) (fun _ _ _ h => h) (Or.inl ⟨by rfl, by intro w' hS'; have hxx := HX1.out w' hS'; go_simp <;> (first | omega | (rw [IntKind.wrap_i64]; omega) | (rw [IntKind.wrap_u64]; omega) | (rw [IntKind.wrap_u32]; omega) | (rw [Int.tmod_eq_emod_of_nonneg (by omega)]))⟩) hSd ?_
      (try simp only [List.getElem_toArray, List.getElem_cons_succ, List.getElem_cons_zero, Act.put, List.setIfInBounds_toArray, List.set_cons_zero, List.set_cons_succ])
      refine wpAnyH_take (i := 5) (v := .int .i64 ((k0 : Int) + 1)) rfl (by kernel_rfl) (by kernel_rfl) (by kernel_rfl) (fun _ _ _ h => h) (Or.inl ⟨by rfl, by intro w' hS'; go_simp <;> (first | omega | (rw [IntKind.wrap_i64]; omega) | (rw [IntKind.wrap_u64]; omega) | (rw [IntKind.wrap_u32]; omega) | (rw [Int.tmod_eq_emod_of_nonneg (by omega)]))⟩) hSd ?_
      (try simp only [List.getElem_toArray, List.getElem_cons_succ, List.getElem_cons_zero, Act.put, List.setIfInBounds_toArray, List.set_cons_zero, List.set_cons_succ])
      refine held_stepS (i := 6) (by kernel_rfl) rfl (by rfl) ?_
      go_simp
      refine (HMK.out _).mono ?_
      rintro e w3 ⟨rfl, hb3⟩
      have hb4 : Below w.heap.size w w3 := by have hx := hSd; rw [HS.out] at hx; exact dblow hx hb3 hx.size
      have hS3 : S w3 := by rw [HS.out]; exact hb4
      refine ⟨hS3, ?_⟩
      (try simp only [List.getElem_toArray, List.getElem_cons_succ, List.getElem_cons_zero, Act.put, List.setIfInBounds_toArray, List.set_cons_zero, List.set_cons_succ])
      refine wpAnyH_take (i := 7) (v := .bool false) rfl (by kernel_rfl) (by kernel_rfl) (by kernel_rfl) (fun _ _ _ h => h) (Or.inl ⟨by rfl, by intro w' hS'; go_simp <;> (first | omega | (rw [IntKind.wrap_i64]; omega) | (rw [IntKind.wrap_u64]; omega) | (rw [IntKind.wrap_u32]; omega) | (rw [Int.tmod_eq_emod_of_nonneg (by omega)]) | rfl)⟩) hS3 ?_
      (try simp only [List.getElem_toArray, List.getElem_cons_succ, List.getElem_cons_zero, Act.put, List.setIfInBounds_toArray, List.set_cons_zero, List.set_cons_succ])
      refine wpAnyH_done (by kernel_rfl) ?_ _
      have x2 := HC2.out w3 hb4
      have HB4 := dhid hb4
      clear hb4 hS3 hSd hb hb3 x0
      go_wp2_with fail
      refine (HP2.out _ HB4.out).mono ?_
      rintro e w5 ⟨rfl, hb5⟩
      have hb6 := dblow HB4.out hb5 HB4.out.size
      clear hb5 HB4 x2
      go_wp2_with fail
      go_roundw
      case rel => exact ⟨i + 1, by omega, by have := HK.out; show Value.int .i64 _ = Value.int .i64 _; congr 1; omega, by go_num, hb6⟩
      case measure => simp [natP]; omega
    · obtain rfl : i = n := by omega
      go_wp2_with fail
      go_ret
      exact ⟨by rw [List.take_of_length_le (by have := HX.out.1; omega)]; rfl, hb⟩
theorem lkM_len (L : List LkI) : L.length ≤ lkMN L := by
  unfold lkMN
  induction L with
  | nil => simp
  | cons y M ih =>
    rw [List.map_cons, List.sum_cons, List.length_cons]
    have : 2 ≤ lkM1 y := by unfold lkM1; omega
    omega
theorem heldLk_deep (v : Value) (L : List LkI) (k : Nat) (bs : List Nat) (w : World) (hp : ∀ x ∈ L, x.p.length ≤ 1048576) (h1 : 1 ≤ k) (hk : k + lkMN L ≤ 4000000) (h : Hd w (lksD (lkMk L k)) v bs) :
    Calls Try.prog 25 #[v, .int .i64 (k : Int)] w fun e w' => e = .returned (.int .i64 ((k + lkMN L : Nat) : Int)) ∧ Below w.heap.size w w' := by
  obtain ⟨a, c, rfl, hx⟩ := lks_at h
  rw [lkMk_len] at hx ⊢
  by_cases h0 : 0 < L.length
  · obtain ⟨g, rfl, hg⟩ := hx h0
    exact heldLk_some g c L.length k L rfl w (by have := lkM_len L; omega) hp h1 hk hg
  · have e0 : L = [] := List.length_eq_zero_iff.1 (by omega)
    subst e0
    refine (heldLk_zero a c k w).mono ?_
    rintro e w' ⟨rfl, rfl⟩
    exact ⟨rfl, Below.refl _ _⟩
end Go.Proofs.Ytpeddaljgmkomaa
