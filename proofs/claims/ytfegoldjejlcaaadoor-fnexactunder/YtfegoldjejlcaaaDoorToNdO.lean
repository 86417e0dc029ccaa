/-
  What the law makes of nodes that came in, with the row that it lies in; marks at whatever list.
-/
import Derived.Test.YtfegoldjejlcaaaDoorNMkB
import Derived.Test.YtfegoldjejlcaaaDoorRtL
import Derived.Test.YtfegoldjejlcaaaDoorKp
namespace Go.Proofs.YtfegoldjejlcaaaDoor
open Go.RowKit
set_option linter.unusedVariables false
set_option linter.unusedSimpArgs false
set_option maxRecDepth 100000 in
set_option maxHeartbeats 4000000 in
theorem toNdO_some (g off c n : Nat) (F : Nat → NdI) (w : World) (hn : n ≤ 1048576) (hg : g < w.heap.size)
    (h0 : ∀ i, i < n → w.cell? ⟨g, off + i * 4, none⟩ = some (.string (F i).p) ∧ w.cell? ⟨g, off + i * 4 + 1, none⟩ = some (.bool (F i).r) ∧ w.cell? ⟨g, off + i * 4 + 2, none⟩ = some (.int .i64 (F i).m) ∧ w.cell? ⟨g, off + i * 4 + 3, none⟩ = some (.string (F i).d)) :
    Calls Tryd.prog 28 #[.slice (some ⟨g, off, none⟩) n c] w fun e w' => e = .returned (.slice (some ⟨w.heap.size, 0, none⟩) n n) ∧ NdRow w' w.heap.size n F ∧ Below w.heap.size w w' ∧ ∃ cur, w'.heap[w.heap.size]? = some (.cells cur 30 (0, 0)) ∧ 4 * n ≤ cur.size := by
  have hnI : (n : Int) ≤ 1048576 := by omega
  have HT : Hid (∀ p r m d w, Calls Tryd.prog 68 #[ndV p r m d] w fun e w' => e = .returned (ndV p r m d) ∧ Below w.heap.size w w') := fun p r m d w => toNd_any p r m d w
  unfold ndV at HT
  have HC : Hid _ := h0
  clear h0
  obtain ⟨i0, hi0, hz0, hz1, hz2⟩ := info_parts Tryd.infNd
  have hmk := run_make (P := Tryd.prog) w 24 30 i0 (.agg #[.string ⟨#[]⟩, .bool false, .int .i64 0, .string ⟨#[]⟩]) Tryd.underlying24 hi0 hz0 .i64 .i64 (n : Int) (n : Int) (by omega) (by omega) (by rw [hz2]; omega) (by omega)
  rw [hz1, Int.toNat_natCast] at hmk
  have HZS : Hid ((madeCells (Value.agg #[.string ⟨#[]⟩, .bool false, .int .i64 0, .string ⟨#[]⟩]).cells (n * 4)).size = 4 * n) := by
    show (madeCells _ _).size = _
    rw [size_madeCells]; omega
  generalize madeCells (Value.agg #[.string ⟨#[]⟩, .bool false, .int .i64 0, .string ⟨#[]⟩]).cells (n * 4) = Z at hmk HZS
  have HU : Hid (Below w.heap.size w (w.alloc (.cells Z 30)) ∧ (w.alloc (.cells Z 30)).heap[w.heap.size]? = some (.cells Z 30 (0, 0))) := ⟨(Below.refl _ _).alloc (Nat.le_refl _) _, heap_alloc_new w _⟩
  go_enter Tryd.func28, Tryd.ntmps28
  go_wp2_with fail
  go_loopw [4] (fun v wr => ∃ (i : Nat) (C : Array Value), i ≤ n ∧ v = .int .i64 (i : Int) ∧ C.size = 4 * n ∧ Hid (Below w.heap.size w wr ∧ wr.heap[w.heap.size]? = some (.cells C 30 (0, 0))) ∧ Hid (∀ j, j < i → C[4 * j]? = some (.string (F j).p) ∧ C[4 * j + 1]? = some (.bool (F j).r) ∧ C[4 * j + 2]? = some (.int .i64 (F j).m) ∧ C[4 * j + 3]? = some (.string (F j).d))) (fun v _ => n - (intNd v).toNat)
  case atStart => exact ⟨0, Z, by omega, rfl, HZS.out, HU, fun j hj => absurd hj (by omega)⟩
  case round =>
    clear HU
    obtain ⟨i, C, hi, rfl, hcs, HB, HCC⟩ := hrel
    have HCS : Hid (C.size = 4 * n) := hcs
    clear hcs
    by_cases hlt : i < n
    · have hltI : (i : Int) < (n : Int) := by omega
      obtain ⟨x0, x1, x2, x3⟩ := HC.out i hlt
      rw [← HB.out.1.cell (p := ⟨g, off + i * 4, none⟩) hg] at x0
      rw [← HB.out.1.cell (p := ⟨g, off + i * 4 + 1, none⟩) hg] at x1
      rw [← HB.out.1.cell (p := ⟨g, off + i * 4 + 2, none⟩) hg] at x2
      rw [← HB.out.1.cell (p := ⟨g, off + i * 4 + 3, none⟩) hg] at x3
      go_wp2_with fail
      refine (HT.out _ _ _ _ _).mono ?_
      rintro e w3 ⟨rfl, hb3⟩
      have hsz := HCS.out
      have hrow : w3.heap[w.heap.size]? = some (.cells C 30 (0, 0)) := (hb3.block _ (Array.getElem?_eq_some_iff.1 HB.out.2).1).trans HB.out.2
      have hbw : Below w.heap.size w w3 := blNd HB.out.1 hb3 HB.out.1.size
      obtain ⟨q, hq⟩ : ∃ q, q = 4 * i := ⟨_, rfl⟩
      have hiq : i * 4 = q := by omega
      have HQ : Hid (q = 4 * i) := hq
      have HB3 : Hid (Below w.heap.size w w3 ∧ w3.heap[w.heap.size]? = some (.cells C 30 (0, 0))) := ⟨hbw, hrow⟩
      have y0 : w3.cell? ⟨w.heap.size, q, none⟩ = some C[q] := (cell_of_row w3 _ q _ _ _ hrow).trans (Array.getElem?_eq_getElem (by omega))
      have y1 : w3.cell? ⟨w.heap.size, q + 1, none⟩ = some C[q + 1] := (cell_of_row w3 _ (q + 1) _ _ _ hrow).trans (Array.getElem?_eq_getElem (by omega))
      have y2 : w3.cell? ⟨w.heap.size, q + 2, none⟩ = some C[q + 2] := (cell_of_row w3 _ (q + 2) _ _ _ hrow).trans (Array.getElem?_eq_getElem (by omega))
      have y3 : w3.cell? ⟨w.heap.size, q + 3, none⟩ = some C[q + 3] := (cell_of_row w3 _ (q + 3) _ _ _ hrow).trans (Array.getElem?_eq_getElem (by omega))
      have z0 := frozen_of_row w3 _ q _ _ hrow
      have z1 := frozen_of_row w3 _ (q + 1) _ _ hrow
      have z2 := frozen_of_row w3 _ (q + 2) _ _ hrow
      have z3 := frozen_of_row w3 _ (q + 3) _ _ hrow
      have HN : Hid (Below w.heap.size w (setWNd w3 w.heap.size q (.string (F i).p) (.bool (F i).r) (.int .i64 (F i).m) (.string (F i).d)) ∧ (setWNd w3 w.heap.size q (.string (F i).p) (.bool (F i).r) (.int .i64 (F i).m) (.string (F i).d)).heap[w.heap.size]? = some (.cells (setNd C q (.string (F i).p) (.bool (F i).r) (.int .i64 (F i).m) (.string (F i).d)) 30 (0, 0))) :=
        ⟨setWNd_below hbw (Nat.le_refl _) _ _ _ _ _, setWNd_row hrow _ _ _ _ _⟩
      have HN2 : Hid (∀ j, j < i + 1 → (setNd C q (.string (F i).p) (.bool (F i).r) (.int .i64 (F i).m) (.string (F i).d))[4 * j]? = some (.string (F j).p) ∧ (setNd C q (.string (F i).p) (.bool (F i).r) (.int .i64 (F i).m) (.string (F i).d))[4 * j + 1]? = some (.bool (F j).r) ∧ (setNd C q (.string (F i).p) (.bool (F i).r) (.int .i64 (F i).m) (.string (F i).d))[4 * j + 2]? = some (.int .i64 (F j).m) ∧ (setNd C q (.string (F i).p) (.bool (F i).r) (.int .i64 (F i).m) (.string (F i).d))[4 * j + 3]? = some (.string (F j).d)) := fun j hj => by
        by_cases hji : j < i
        · rw [setNd_low _ _ _ _ _ _ _ (by omega), setNd_low _ _ _ _ _ _ _ (by omega), setNd_low _ _ _ _ _ _ _ (by omega), setNd_low _ _ _ _ _ _ _ (by omega)]
          exact HCC.out j hji
        · obtain rfl : j = i := by omega
          rw [← hq]
          exact ⟨setNd_0 _ _ _ _ _ _ (by omega), setNd_1 _ _ _ _ _ _ (by omega), setNd_2 _ _ _ _ _ _ (by omega), setNd_3 _ _ _ _ _ _ (by omega)⟩
      generalize C[q] = u0 at y0
      generalize C[q + 1] = u1 at y1
      generalize C[q + 2] = u2 at y2
      generalize C[q + 3] = u3 at y3
      clear hsz hrow hbw hb3 x0 x1 x2 x3 hq HB
      go_wp2_with fail
      go_roundw
      case rel => exact ⟨i + 1, _, by omega, by go_num, (setNd_size _ _ _ _ _ _).trans HCS.out, HN, HN2⟩
      case measure => simp [intNd]; omega
    · obtain rfl : i = n := by omega
      go_wp2_with fail
      go_ret
      have hr := HB.out.2
      exact ⟨rfl, ⟨(Array.getElem?_eq_some_iff.1 hr).1, fun j hj => (cell_of_row wr _ _ _ _ _ hr).trans (HCC.out j hj).1, fun j hj => (cell_of_row wr _ _ _ _ _ hr).trans (HCC.out j hj).2.1, fun j hj => (cell_of_row wr _ _ _ _ _ hr).trans (HCC.out j hj).2.2.1, fun j hj => (cell_of_row wr _ _ _ _ _ hr).trans (HCC.out j hj).2.2.2⟩, HB.out.1, _, hr, Nat.le_of_eq HCS.out.symm⟩
/-- a list of structs that lies in a row of its own, made between two sizes of memory -/
def NdO (w : World) (B T : Nat) (v : Value) (n : Nat) : Prop := ∃ a c, v = .slice a n c ∧ (0 < n → ∃ g cur, a = some ⟨g, 0, none⟩ ∧ B ≤ g ∧ g < T ∧ w.heap[g]? = some (.cells cur 30 (0, 0)) ∧ 4 * n ≤ cur.size)
theorem toNdO_any (v : Value) (n : Nat) (F : Nat → NdI) (w : World) (hn : n ≤ 1048576) (h : NdIn w v n F) :
    Calls Tryd.prog 28 #[v] w fun e w' => (∃ v', e = .returned v' ∧ NdArg w' v' n F ∧ NdO w' w.heap.size w'.heap.size v' n) ∧ Below w.heap.size w w' := by
  obtain ⟨a, c, rfl, hr⟩ := h.form
  by_cases h0 : 0 < n
  · obtain ⟨g, off, rfl, hg, hx⟩ := hr h0
    refine (toNdO_some g off c n F w hn hg hx).mono ?_
    rintro e w' ⟨rfl, hrow, hb, cur, h1, h2⟩
    exact ⟨⟨_, rfl, ⟨_, _, rfl, fun _ => ⟨_, rfl, hrow⟩⟩, ⟨_, _, rfl, fun _ => ⟨_, cur, rfl, Nat.le_refl _, (Array.getElem?_eq_some_iff.1 h1).1, h1, h2⟩⟩⟩, hb⟩
  · obtain rfl : n = 0 := by omega
    refine (toNdS_zero a c w).mono ?_
    rintro e w' ⟨⟨b, rfl⟩, hb⟩
    exact ⟨⟨_, rfl, ⟨_, _, rfl, fun h => absurd h (by omega)⟩, ⟨_, _, rfl, fun h => absurd h (by omega)⟩⟩, hb⟩
theorem own4_NdO {w : World} {B n : Nat} {v : Value} {xs : List Value} (h : w.ownsRow B 30 4 v n xs) : NdO w B w.heap.size v n := by
  obtain ⟨a, c, rfl⟩ := own4_slice h
  refine ⟨a, c, rfl, fun h0 => ?_⟩
  obtain ⟨g, cap, cur, h1, h2, h3, h4, _⟩ := own4_form h h0
  cases h1
  exact ⟨g, cur, rfl, h2, (Array.getElem?_eq_some_iff.1 h3).1, h3, h4⟩
theorem NdO.kept {w w' : World} {bs : List (Nat × Nat)} {B T n : Nat} {v : Value} (h : NdO w B T v n) (hk : Kp w w' bs) (hd : ∀ b ∈ bs, b.2 ≤ B ∨ T ≤ b.1) : NdO w' B T v n := by
  obtain ⟨a, c, rfl, hr⟩ := h
  refine ⟨a, c, rfl, fun h0 => ?_⟩
  obtain ⟨g, cur, h1, h2, h3, h4, h5⟩ := hr h0
  exact ⟨g, cur, h1, h2, h3, (hk.same g (Array.getElem?_eq_some_iff.1 h4).1 fun b hb c => by rcases hd b hb with e | e <;> omega).trans h4, h5⟩
theorem NdArg.kept {w w' : World} {bs : List (Nat × Nat)} {B T n : Nat} {v : Value} {F : Nat → NdI} (h : NdArg w v n F) (ho : NdO w B T v n) (hk : Kp w w' bs) (hd : ∀ b ∈ bs, b.2 ≤ B ∨ T ≤ b.1) : NdArg w' v n F := by
  obtain ⟨a, c, rfl, hr⟩ := h
  refine ⟨a, c, rfl, fun h0 => ?_⟩
  obtain ⟨g, rfl, hrow⟩ := hr h0
  obtain ⟨a2, c2, e2, ho2⟩ := ho
  cases e2
  obtain ⟨g2, cur, e3, h2, h3, h4, _⟩ := ho2 h0
  cases e3
  have hb := hk.same g hrow.lt fun b hb c => by rcases hd b hb with e | e <;> omega
  exact ⟨g, rfl, Nat.lt_of_lt_of_le hrow.lt hk.size, fun i hi => (World.cell?_of_block (a := ⟨g, 4 * i, none⟩) hb).trans (hrow.c0 i hi), fun i hi => (World.cell?_of_block (a := ⟨g, 4 * i + 1, none⟩) hb).trans (hrow.c1 i hi), fun i hi => (World.cell?_of_block (a := ⟨g, 4 * i + 2, none⟩) hb).trans (hrow.c2 i hi), fun i hi => (World.cell?_of_block (a := ⟨g, 4 * i + 3, none⟩) hb).trans (hrow.c3 i hi)⟩
/-- a list that bears marks from k on -/
def MkLNd (w : World) (v : Value) (n k : Nat) : Prop := ∃ a c, v = .slice a n c ∧ (0 < n → ∃ g, a = some ⟨g, 0, none⟩ ∧ g < w.heap.size ∧ MnAt w g n k)
theorem MkLNd.below {w w' : World} {v : Value} {n k : Nat} (h : MkLNd w v n k) (hb : Below w.heap.size w w') : MkLNd w' v n k := by
  obtain ⟨a, c, rfl, hr⟩ := h
  refine ⟨a, c, rfl, fun h0 => ?_⟩
  obtain ⟨g, h1, h2, h3⟩ := hr h0
  exact ⟨g, h1, Nat.lt_of_lt_of_le h2 hb.size, h3.below hb h2⟩
theorem markNdL_any {B0 : Nat} {w00 : World} (v : Value) (n k B T : Nat) (w w0 : World) (bs : List (Nat × Nat)) (hn : n ≤ 1048576) (h1 : 1 ≤ k) (hk : k ≤ 4300000) (h : NdO w B T v n) (hkp : Kp w0 w bs) (hb : Below B0 w00 w) (hB0 : B0 ≤ B) (hT : w0.heap.size ≤ w.heap.size) :
    Calls Tryd.prog 30 #[v, .int .i64 (k : Int)] w fun e w' => (e = .returned (.int .i64 ((k + 4 * n : Nat) : Int)) ∧ MkLNd w' v n k) ∧ Kp w0 w' ((B, T) :: bs) ∧ Below B0 w00 w' := by
  obtain ⟨a, c, rfl, hr⟩ := h
  by_cases h0 : 0 < n
  · obtain ⟨g, cur, rfl, h2, h3, h4, h5⟩ := hr h0
    refine (markNB_any g c n k cur w hn h1 hk h4 h5).mono ?_
    rintro e w' ⟨⟨rfl, hm⟩, hg⟩
    have hgl := (Array.getElem?_eq_some_iff.1 h4).1
    refine ⟨⟨rfl, _, _, rfl, fun _ => ⟨g, rfl, Nat.lt_of_lt_of_le hgl hg.size, hm⟩⟩, ⟨Nat.le_trans hkp.size hg.size, fun x hx hn2 => ?_⟩, hb.grown hg (Nat.le_of_lt (Nat.lt_of_le_of_lt (Nat.le_trans hB0 h2) hgl)) (fun x hx => by have := Option.some.inj hx; omega)⟩
    rw [hg.block x (Nat.lt_of_lt_of_le hx hkp.size) (fun e => hn2 (B, T) (List.mem_cons_self ..) (by have := Option.some.inj e; show B ≤ x ∧ x < T; omega))]
    exact hkp.same x hx fun b hb' => hn2 b (List.mem_cons_of_mem _ hb')
  · obtain rfl : n = 0 := by omega
    refine (markN_zero a c k w).mono ?_
    rintro e w' ⟨rfl, rfl⟩
    exact ⟨⟨rfl, _, _, rfl, fun h => absurd h (by omega)⟩, hkp.more _, hb⟩
theorem heldNdL_any (v : Value) (n k : Nat) (w : World) (hn : n ≤ 1000) (h1 : 1 ≤ k) (hk : k ≤ 1000) (h : MkLNd w v n k) :
    Calls Tryd.prog 31 #[v, .int .i64 (k : Int)] w fun e w' => e = .returned (.int .i64 ((k + 4 * n : Nat) : Int)) ∧ Below w.heap.size w w' := by
  obtain ⟨a, c, rfl, hr⟩ := h
  by_cases h0 : 0 < n
  · obtain ⟨g, rfl, h2, h3⟩ := hr h0
    exact heldN_any g c n k w hn h1 hk h2 h3
  · obtain rfl : n = 0 := by omega
    refine (heldN_zero a c k w).mono ?_
    rintro e w' ⟨rfl, rfl⟩
    exact ⟨rfl, Below.refl _ _⟩
end Go.Proofs.YtfegoldjejlcaaaDoor
